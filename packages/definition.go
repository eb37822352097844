package packages

import (
	"sort"

	"mainline/api"
	"mainline/paths"
	"mainline/store"
	"mainline/syntax"
)

// definition is a build file of a tree, parsed, with the files that belong to its package.
type definition struct {
	path, dir string
	build     api.Build
	faultLine int
	fault     api.Errno  // of the source, at faultLine
	own       []api.File // what belongs to the package, in order
}

// buildFiles returns the build files among the files of a tree, in the order of their directories.
func buildFiles(files []api.File) []api.File {
	var found []api.File
	for _, file := range files {
		if paths.Base(file.Path) == buildName {
			found = append(found, file)
		}
	}
	// The order of the files is another one: d/BUILD comes behind d/A/BUILD.
	sort.Slice(found, func(i, j int) bool {
		return paths.Less(paths.Dir(found[i].Path), paths.Dir(found[j].Path))
	})
	return found
}

// parseAll parses the build files among the files of a tree, in the order of their directories.
func parseAll(s *store.Store, files []api.File) []definition {
	var all []definition
	for _, file := range buildFiles(files) {
		text, _ := s.Text(file.Id)
		d := definition{path: file.Path, dir: paths.Dir(file.Path)}
		d.build, d.faultLine, d.fault = syntax.Parse(text)
		all = append(all, d)
	}
	distribute(files, all)
	return all
}

// distribute gives each file to the package that it belongs to. In the order of paths all files under a directory follow it, so that the directories around a file are among those that have begun, the deepest one last.
func distribute(files []api.File, definitions []definition) {
	var begun []*definition
	coming := definitions
	for _, file := range files {
		for len(coming) > 0 && paths.Less(coming[0].dir, file.Path) {
			begun = append(begun, &coming[0])
			coming = coming[1:]
		}
		for len(begun) > 0 && !paths.Under(file.Path, begun[len(begun)-1].dir) {
			begun = begun[:len(begun)-1]
		}
		if len(begun) > 0 {
			deepest := begun[len(begun)-1]
			deepest.own = append(deepest.own, file)
		}
	}
}

// manyTargets returns the number of targets of all build files together.
func manyTargets(definitions []definition) int {
	many := 0
	for _, d := range definitions {
		many += len(d.build.Targets)
	}
	return many
}
