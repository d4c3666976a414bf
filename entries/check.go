package entries

import (
	"slices"
	"strings"

	"silt/api"
)

const separator = "/"

// isTree asks of each entry no more than how it stands to the one ahead of it: paths rise, so all that lies below a directory stands in one run behind it.
func isTree(tree []api.Entry) bool {
	var last api.Entry
	for _, e := range tree {
		if !isEntry(e) || !follows(last, e) {
			return false
		}
		last = e
	}
	return true
}

// follows tells whether next may stand behind last, if the entries up to last are a tree. A last without a path stands for none.
func follows(last, next api.Entry) bool {
	return comparePaths(last.Path, next.Path) < 0 && hasParent(last, next.Path)
}

func comparePaths(a, b string) int {
	return slices.Compare(strings.Split(a, separator), strings.Split(b, separator))
}

// hasParent: where last lies below the parent, the parent was asked for already when the first such entry came.
func hasParent(last api.Entry, path string) bool {
	at := strings.LastIndex(path, separator)
	if at < 0 {
		return true
	}
	parent := path[:at]
	return last.Path == parent && last.Kind == api.Dir || isBelow(last.Path, parent)
}

func isBelow(path, parent string) bool { return strings.HasPrefix(path, parent+separator) }

func isAtOrBelow(path, parent string) bool { return path == parent || isBelow(path, parent) }

func isEntry(e api.Entry) bool { return isHead(e, len(e.Content)) }

// isHead asks all of an entry but its content, of which only the length is known.
func isHead(e api.Entry, length int) bool {
	return IsPath(e.Path) && within(e.Mode, 0, api.MaxMode) && within(e.Time, 0, api.MaxTime) && areNotes(e.Notes) && isContent(e.Kind, length)
}

// IsPath tells whether an entry may have this path.
func IsPath(path string) bool {
	if len(path) > api.MaxPath {
		return false
	}
	for _, part := range strings.Split(path, separator) {
		if !isPart(part) {
			return false
		}
	}
	return true
}

func isPart(part string) bool {
	return within(len(part), 1, api.MaxPart) && part != "." && part != ".." && strings.IndexByte(part, 0) < 0
}

func areNotes(notes []api.Note) bool {
	if len(notes) > api.MaxNotes {
		return false
	}
	last := "" // no name is empty, so each rises above it
	for _, n := range notes {
		if n.Name <= last || len(n.Name) > api.MaxPart || len(n.Text) > api.MaxPath {
			return false
		}
		last = n.Name
	}
	return true
}

// isContent: a file's length is bounded by the stream alone.
func isContent(kind, length int) bool {
	switch kind {
	case api.File:
		return true
	case api.Dir:
		return length == 0
	case api.Link:
		return within(length, 1, api.MaxPath)
	}
	return false
}

func within(n, low, high int) bool { return low <= n && n <= high }
