package packages

import (
	"fmt"
	"math"
	"slices"
	"strings"
	"testing"

	"mainline/api"
	"mainline/paths"
	"mainline/store"
	"mainline/syntax"
	"mainline/tree"
)

// The functions ...ByWords follow the chapter's words as literally as possible, with the files of a tree as a map from paths to the numbers of contents.

func filesByWords(s *store.Store, root int) map[string]int {
	files := map[string]int{}
	entries, _ := s.Entries(root)
	for _, entry := range entries {
		if !entry.Dir {
			files[entry.Name] = entry.Id
			continue
		}
		for path, id := range filesByWords(s, entry.Id) {
			files[entry.Name+"/"+path] = id
		}
	}
	return files
}

func comparedByWords(a, b string) int {
	return slices.Compare(parts(a), parts(b))
}

func parts(path string) []string {
	if path == "" {
		return nil
	}
	return strings.Split(path, "/")
}

func lastPart(path string) string {
	all := parts(path)
	return all[len(all)-1]
}

func joined(dir, name string) string {
	return strings.TrimPrefix(dir+"/"+name, "/")
}

func isBelow(path, dir string) bool {
	return dir == "" || strings.HasPrefix(path, dir+"/")
}

func dirsByWords(s *store.Store, root int) []string {
	var dirs []string
	for path := range filesByWords(s, root) {
		if lastPart(path) == "BUILD" {
			dirs = append(dirs, strings.TrimSuffix(strings.TrimSuffix(path, "BUILD"), "/"))
		}
	}
	slices.SortFunc(dirs, comparedByWords)
	return dirs
}

// belongsByWords tells whether a file belongs to a package directory: no deeper one contains it.
func belongsByWords(path, dir string, dirs []string) bool {
	if !isBelow(path, dir) {
		return false
	}
	for _, other := range dirs {
		if isBelow(path, other) && len(parts(other)) > len(parts(dir)) {
			return false
		}
	}
	return true
}

// byWords is a package that is evaluated.
type byWords struct {
	dir       string
	files     map[string]int // of the tree
	sources   map[string]int // the source files, by their names in the package
	platforms []string
	targets   []api.Target
	report    func(line int, kind api.Errno)
}

func (w *byWords) problemOfOut(target, place int) api.Errno {
	item := w.targets[target].Outs[place]
	if !paths.Valid(item.Text) {
		return api.ErrPath
	}
	if w.targets[target].Kind != api.Gen {
		return api.ErrKind
	}
	for path := range w.files {
		if name := joined(w.dir, item.Text); path == name || isBelow(path, name) {
			return api.ErrExists
		}
	}
	for t := range target + 1 {
		for i, other := range w.targets[t].Outs {
			if (t < target || i < place) && other.Text == item.Text {
				return api.ErrTwice
			}
		}
	}
	return api.OK
}

// maker returns the target with an item of Outs without a problem that has this text.
func (w *byWords) maker(text string) (string, bool) {
	for t, target := range w.targets {
		for i, item := range target.Outs {
			if item.Text == text && w.problemOfOut(t, i) == api.OK {
				return target.Name, true
			}
		}
	}
	return "", false
}

func (w *byWords) problemOfPlatform(item api.Item) api.Errno {
	if item.Platform == "" || slices.Contains(w.platforms, item.Platform) {
		return api.OK
	}
	return api.ErrPlatform
}

func (w *byWords) problemOfSource(item api.Item) api.Errno {
	if e := w.problemOfPlatform(item); e != api.OK {
		return e
	}
	if item.Glob {
		if !paths.ValidPattern(item.Text) {
			return api.ErrPath
		}
		return api.OK
	}
	if !paths.Valid(item.Text) {
		return api.ErrPath
	}
	_, isSource := w.sources[item.Text]
	_, isMade := w.maker(item.Text)
	if !isSource && !isMade {
		return api.ErrSource
	}
	return api.OK
}

func (w *byWords) reportAll() {
	tell := func(item api.Item, e api.Errno) {
		if e != api.OK {
			w.report(item.Line, e)
		}
	}
	for t, target := range w.targets {
		for i, item := range target.Outs {
			tell(item, w.problemOfOut(t, i))
		}
		for _, item := range target.Srcs {
			tell(item, w.problemOfSource(item))
		}
		for _, item := range target.Deps {
			tell(item, w.problemOfPlatform(item))
		}
	}
}

// names tells whether an item of Srcs names a source file.
func (w *byWords) names(item api.Item, name string) bool {
	if item.Glob {
		return paths.Match(item.Text, name)
	}
	return item.Text == name
}

func (w *byWords) variant(t int, platform string) api.Variant {
	target := w.targets[t]
	v := api.Variant{
		Label: "//" + w.dir + ":" + target.Name, Platform: platform, Kind: target.Kind, Line: target.Line, Cost: target.Cost, Retry: target.Retry,
	}
	counts := func(item api.Item, e api.Errno) bool {
		return e == api.OK && (item.Platform == "" || item.Platform == platform)
	}
	for i, item := range target.Outs {
		if w.problemOfOut(t, i) == api.OK {
			v.Outs = append(v.Outs, joined(w.dir, item.Text))
		}
	}
	for _, item := range target.Deps {
		if counts(item, w.problemOfPlatform(item)) {
			v.Deps = append(v.Deps, item)
		}
	}
	for name, id := range w.sources {
		if slices.ContainsFunc(target.Srcs, func(item api.Item) bool { return counts(item, w.problemOfSource(item)) && w.names(item, name) }) {
			v.Files = append(v.Files, api.File{Path: joined(w.dir, name), Id: id})
		}
	}
	slices.SortFunc(v.Files, func(a, b api.File) int { return comparedByWords(a.Path, b.Path) })
	for _, item := range target.Srcs {
		_, isSource := w.sources[item.Text]
		if counts(item, w.problemOfSource(item)) && !item.Glob && !isSource {
			name, _ := w.maker(item.Text)
			v.Deps = append(v.Deps, api.Item{Text: ":" + name, Line: item.Line})
		}
	}
	for _, item := range target.Visible {
		v.Visible = append(v.Visible, item.Text)
	}
	return v
}

func loadByWords(s *store.Store, root int) ([]api.Package, []api.Problem) {
	files, dirs := filesByWords(s, root), dirsByWords(s, root)
	var packages []api.Package
	var problems []api.Problem
	targets := 0
	for _, dir := range dirs {
		path := joined(dir, "BUILD")
		report := func(line int, kind api.Errno) {
			problems = append(problems, api.Problem{Path: path, Line: line, Kind: kind})
		}
		source, _ := s.Text(files[path])
		b, line, e := syntax.Parse(source)
		if e != api.OK {
			report(line, e)
			packages = append(packages, api.Package{Dir: dir})
			continue
		}
		targets += len(b.Targets)
		w := &byWords{dir: dir, files: files, sources: map[string]int{}, targets: b.Targets, report: report}
		for path, id := range files {
			if name := strings.TrimPrefix(path, joined(dir, "")); belongsByWords(path, dir, dirs) && name != "BUILD" && lastPart(name) != "OWNERS" {
				w.sources[name] = id
			}
		}
		for _, item := range b.Platforms {
			w.platforms = append(w.platforms, item.Text)
		}
		if len(b.Platforms) == 0 {
			w.platforms = []string{"any"}
		}
		w.reportAll()
		p := api.Package{Dir: dir, Platforms: w.platforms}
		for t := range b.Targets {
			for _, platform := range w.platforms {
				p.Variants = append(p.Variants, w.variant(t, platform))
			}
		}
		packages = append(packages, p)
	}
	if targets > 20000 {
		return nil, []api.Problem{{Path: "", Line: 0, Kind: api.ErrMany}}
	}
	return packages, problems
}

// rootOf returns the tree of files, which are written as their paths and texts in turn.
func rootOf(t *testing.T, s *store.Store, written ...string) int {
	t.Helper()
	var files []api.File
	for i := 0; i < len(written); i += 2 {
		id, e := s.Blob(written[i+1])
		if e != api.OK {
			t.Fatalf("Blob of %d bytes: error %d", len(written[i+1]), e)
		}
		files = append(files, api.File{Path: written[i], Id: id})
	}
	root, e := tree.Build(s, files)
	if e != api.OK {
		t.Fatalf("Build of %s: error %d", brief(written), e)
	}
	return root
}

// shownItems writes items as their texts, and what is not as usual: @ and the line, unless it is 1, a slash and the platform, and a star for a Glob.
func shownItems(items []api.Item) string {
	var all []string
	for _, item := range items {
		text := item.Text
		if item.Line != 1 {
			text += fmt.Sprint("@", item.Line)
		}
		if item.Platform != "" {
			text += "/" + item.Platform
		}
		if item.Glob {
			text += "*"
		}
		all = append(all, text)
	}
	return strings.Join(all, ",")
}

// shownFiles writes files as their paths; behind one with other contents than in the tree stands their number.
func shownFiles(files []api.File, contents map[string]int) string {
	var all []string
	for _, file := range files {
		text := file.Path
		if contents[file.Path] != file.Id {
			text += fmt.Sprint("!", file.Id)
		}
		all = append(all, text)
	}
	return strings.Join(all, ",")
}

// shownVariant writes a variant as its label, its platform, and what is not as usual.
func shownVariant(v api.Variant, contents map[string]int) string {
	text := v.Label + " " + v.Platform
	for _, number := range []struct {
		name        string
		is, usually int
	}{{"kind", v.Kind, api.Lib}, {"line", v.Line, 1}, {"cost", v.Cost, 1}, {"retry", v.Retry, 0}} {
		if number.is != number.usually {
			text += fmt.Sprint(" ", number.name, "=", number.is)
		}
	}
	for _, list := range []struct{ name, is string }{
		{"files", shownFiles(v.Files, contents)}, {"outs", strings.Join(v.Outs, ",")}, {"deps", shownItems(v.Deps)}, {"visible", strings.Join(v.Visible, ",")},
	} {
		if list.is != "" {
			text += " " + list.name + "=" + list.is
		}
	}
	return text
}

// shown writes packages: for each one a line with its directory and, behind a colon, its platforms, and then a line for each variant.
func shown(packages []api.Package, contents map[string]int) []string {
	var all []string
	for _, p := range packages {
		all = append(all, p.Dir+": "+strings.Join(p.Platforms, ","))
		for _, v := range p.Variants {
			all = append(all, shownVariant(v, contents))
		}
	}
	return all
}

// shownProblems writes problems as their paths, lines and kinds.
func shownProblems(problems []api.Problem) []string {
	var all []string
	for _, p := range problems {
		all = append(all, fmt.Sprint(p.Path, " ", p.Line, " ", int(p.Kind)))
	}
	return all
}

// loads checks the packages and the problems of a tree of files, which are written as their paths and texts in turn.
func loads(t *testing.T, files []string, packages, problems []string) {
	t.Helper()
	s := store.New()
	root := rootOf(t, s, files...)
	contents := filesByWords(s, root)
	p, x := Load(s, root)
	if is := shown(p, contents); !slices.Equal(is, packages) {
		t.Errorf("%s:\n%s\nwant\n%s", brief(files), brief(strings.Join(is, "\n")), brief(strings.Join(packages, "\n")))
	}
	if is := shownProblems(x); !slices.Equal(is, problems) {
		t.Errorf("problems of %s: %s; want %s", brief(files), brief(is), brief(problems))
	}
}

func samePackage(a, b api.Package) bool {
	return a.Dir == b.Dir && slices.Equal(a.Platforms, b.Platforms) && slices.EqualFunc(a.Variants, b.Variants, sameVariant)
}

func sameVariant(a, b api.Variant) bool {
	return a.Label == b.Label && a.Platform == b.Platform && a.Kind == b.Kind && a.Line == b.Line && a.Cost == b.Cost && a.Retry == b.Retry &&
		slices.Equal(a.Files, b.Files) && slices.Equal(a.Outs, b.Outs) && slices.Equal(a.Deps, b.Deps) && slices.Equal(a.Visible, b.Visible)
}

// follows checks that Dirs and Load of a tree are as the words say.
func follows(t *testing.T, s *store.Store, root int) ([]api.Package, []api.Problem) {
	t.Helper()
	contents := filesByWords(s, root)
	p, x := Load(s, root)
	wantP, wantX := loadByWords(s, root)
	if !slices.EqualFunc(p, wantP, samePackage) || !slices.Equal(x, wantX) {
		for path, id := range contents {
			text, _ := s.Text(id)
			t.Logf("%s: %q", path, text)
		}
		t.Fatalf("%s\nproblems %v;\nwant\n%s\nproblems %v", strings.Join(shown(p, contents), "\n"), x, strings.Join(shown(wantP, contents), "\n"), wantX)
	}
	if dirs, want := Dirs(s, root), dirsByWords(s, root); !slices.Equal(dirs, want) {
		t.Fatalf("Dirs: %q; want %q", dirs, want)
	}
	return p, x
}

// noTrees returns numbers that are not trees of a store with many objects.
func noTrees(many int) []int {
	return []int{0, -1, -2, -many, many + 1, many + 2, math.MaxInt, math.MinInt, 1 << 32, 1<<32 + many, -1 << 31}
}

// brief returns the beginning of a value as text.
func brief(value any) string {
	text := fmt.Sprint(value)
	return text[:min(len(text), 2000)]
}
