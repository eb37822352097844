package syntax

import (
	"slices"
	"strconv"
	"strings"

	"mainline/api"
)

// printer collects the source of a build that is well-formed.
type printer struct{ source strings.Builder }

// line adds a line.
func (p *printer) line(parts ...string) {
	for _, part := range parts {
		p.source.WriteString(part)
	}
	p.source.WriteByte(lineFeed)
}

func (p *printer) file(b api.Build) {
	if len(b.Platforms) > 0 {
		p.line("platforms ", joined(b.Platforms, bare), ";")
	}
	for _, t := range b.Targets {
		p.target(t)
	}
}

func (p *printer) target(t api.Target) {
	p.line("target ", t.Name, " {")
	p.line("  kind ", kindWords[t.Kind], ";")
	p.items("srcs", t.Srcs)
	p.items("deps", t.Deps)
	p.items("out", t.Outs)
	p.items("visible", t.Visible)
	if t.Cost != defaultCost {
		p.line("  cost ", strconv.Itoa(t.Cost), ";")
	}
	if t.Retry != defaultRetry {
		p.line("  retry ", strconv.Itoa(t.Retry), ";")
	}
	p.line("}")
}

// items adds the attributes with this word, as few as the platforms of the items permit.
func (p *printer) items(word string, items []api.Item) {
	for rest := items; len(rest) > 0; {
		size := samePlatform(rest)
		p.line("  ", word, limit(rest[0].Platform), " ", joined(rest[:size], inSource), ";")
		rest = rest[size:]
	}
}

// samePlatform returns how many items at the beginning have the platform of the first one.
func samePlatform(items []api.Item) int {
	size := slices.IndexFunc(items, func(i api.Item) bool { return i.Platform != items[0].Platform })
	if size < 0 {
		return len(items)
	}
	return size
}

// limit returns what stands between the word of an attribute and its items.
func limit(platform string) string {
	if platform == "" {
		return ""
	}
	return " " + platform
}

// joined returns the items, each in a form, with commas between them.
func joined(items []api.Item, form func(api.Item) string) string {
	forms := make([]string, len(items))
	for i, item := range items {
		forms[i] = form(item)
	}
	return strings.Join(forms, ", ")
}

// bare is the form of a platform.
func bare(i api.Item) string {
	return i.Text
}

// inSource is the form of a string, which may be a glob.
func inSource(i api.Item) string {
	s := quotationMark + i.Text + quotationMark
	if i.Glob {
		return "glob(" + s + ")"
	}
	return s
}
