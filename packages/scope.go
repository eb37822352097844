package packages

import (
	"maps"
	"slices"
	"sort"

	"mainline/api"
	"mainline/paths"
)

// scope is what the items of a build file can name.
type scope struct {
	prefix    string           // with which the paths of the package begin
	labels    string           // with which the labels of its targets begin
	platforms []string         // of the package
	files     []api.File       // of the tree, in order
	sources   []api.File       // the source files of the package, in order
	places    map[string]int   // of the source files, by their names in the package
	matching  map[string][]int // for each Glob so far, the places of the source files that it matches
	outs      map[string]out   // for each text of an item of Outs, the first item with it
}

// out is an item of Outs with its target.
type out struct {
	item   *api.Item
	target *api.Target
}

// newScope returns the scope of a build file of a tree with these files.
func newScope(d definition, files []api.File) *scope {
	s := &scope{
		labels:    "//" + d.dir + ":",
		platforms: platformsOf(d.build),
		files:     files,
		places:    make(map[string]int),
		matching:  make(map[string][]int),
		outs:      firstOuts(d.build.Targets),
	}
	if d.dir != "" {
		s.prefix = d.dir + "/"
	}
	for _, file := range d.own {
		if base := paths.Base(file.Path); base != buildName && base != ownersName {
			s.places[s.nameOf(file)] = len(s.sources)
			s.sources = append(s.sources, file)
		}
	}
	return s
}

func platformsOf(build api.Build) []string {
	if len(build.Platforms) == 0 {
		return []string{onlyPlatform}
	}
	return texts(build.Platforms)
}

// firstOuts returns, for each text of an item of Outs, the first item with this text.
func firstOuts(targets []api.Target) map[string]out {
	outs := make(map[string]out)
	for t := range targets {
		target := &targets[t]
		for i := range target.Outs {
			item := &target.Outs[i]
			if _, declared := outs[item.Text]; !declared {
				outs[item.Text] = out{item, target}
			}
		}
	}
	return outs
}

// nameOf returns the name in the package of a file that belongs to it.
func (s *scope) nameOf(file api.File) string {
	return file.Path[len(s.prefix):]
}

// pathOf returns the path in the tree of a name in the package.
func (s *scope) pathOf(name string) string {
	return s.prefix + name
}

// isTaken tells whether the tree has a file or a directory with this name in the package. Of a directory it has files, which follow it in the order of paths.
func (s *scope) isTaken(name string) bool {
	path := s.pathOf(name)
	next := sort.Search(len(s.files), func(i int) bool { return !paths.Less(s.files[i].Path, path) })
	return next < len(s.files) && paths.Under(s.files[next].Path, path)
}

func (s *scope) isSource(name string) bool {
	_, known := s.places[name]
	return known
}

// isGenerated tells whether a target writes the file with this name in the package: whether there is an item of Outs without a problem.
func (s *scope) isGenerated(name string) bool {
	first, declared := s.outs[name]
	return declared && problemOf(first.item, s.outRules(first.target)) == api.OK
}

// placesOf returns the places of the source files that an item of Srcs stands for.
func (s *scope) placesOf(item api.Item) []int {
	if item.Glob {
		return s.matchedBy(item.Text)
	}
	if place, known := s.places[item.Text]; known {
		return []int{place}
	}
	return nil
}

// matchedBy returns the places of the source files that a pattern matches. As many targets have the same Globs, each pattern is tried only once.
func (s *scope) matchedBy(pattern string) []int {
	matched, known := s.matching[pattern]
	if known {
		return matched
	}
	for place, file := range s.sources {
		if paths.Match(pattern, s.nameOf(file)) {
			matched = append(matched, place)
		}
	}
	s.matching[pattern] = matched
	return matched
}

// filesOf returns the source files that items of Srcs stand for, each once, in order.
func (s *scope) filesOf(srcs []api.Item) []api.File {
	picked := make(map[int]bool)
	for _, item := range srcs {
		for _, place := range s.placesOf(item) {
			picked[place] = true
		}
	}
	var files []api.File
	for _, place := range slices.Sorted(maps.Keys(picked)) {
		files = append(files, s.sources[place])
	}
	return files
}
