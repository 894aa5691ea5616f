// Package louvre_test checks what the document says of the program as a whole.
package louvre_test

import (
	"go/parser"
	"go/token"
	"os"
	"path/filepath"
	"slices"
	"strconv"
	"strings"
	"testing"
)

// rows is the overview of DOC.md: each layer, and the layers that it calls.
const rows = `
dec:
addr:
rect: addr
glyph:
val: dec glyph
sheet: addr rect val
lex: dec addr rect glyph val
tree: rect val
parse: lex tree
show: dec rect glyph val tree
entry: addr dec glyph val parse show
refs: rect tree
fnum: dec val
ftext: dec glyph val
flogic: val fnum
agg: dec rect val
eval: rect tree sheet fnum ftext flogic agg
group:
acl: rect group
region: rect acl
grant: rect group region
deps: addr rect entry refs
reach: addr rect deps
scc:
order: scc
cycle: rect deps scc order
flow: rect group acl region grant deps
roster: group
op: addr rect group glyph
audit: rect group region op
book: addr rect entry group acl region grant audit op
denote: sheet entry eval grant deps cycle flow book
calc: rect sheet entry eval grant deps reach cycle flow book
release: rect acl grant deps book
visible: rect group deps reach flow book
view: rect group acl val denote book
model: group roster op audit book release visible view
session: rect group roster op audit book calc release visible
low: group acl region grant denote audit book release session
why: rect group acl region grant deps reach flow book
script: op book session
lines: addr rect group op script
console: denote model session low why script lines
`

// library is the part of the standard library that the program may import.
const library = "bytes cmp container/heap errors iter maps math math/bits slices sort strconv strings sync sync/atomic unicode unicode/utf8"

// TestImports checks that each layer calls only the layers of its row, and of the standard library only what is allowed.
func TestImports(t *testing.T) {
	for _, row := range strings.Split(strings.TrimSpace(rows), "\n") {
		layer, calls, _ := strings.Cut(row, ":")
		allowed := append(strings.Fields(calls), "api")
		for _, path := range imports(t, layer) {
			name, own := strings.CutPrefix(path, "louvre/")
			if own && !slices.Contains(allowed, name) || !own && !slices.Contains(strings.Fields(library), path) {
				t.Errorf("package %s imports %s", layer, path)
			}
		}
	}
}

// imports returns what the package in a folder imports, apart from its tests.
func imports(t *testing.T, folder string) []string {
	names, err := filepath.Glob(filepath.Join(folder, "*.go"))
	if err != nil || len(names) == 0 {
		t.Fatal("no package", folder, err)
	}
	var l []string
	for _, name := range names {
		if strings.HasSuffix(name, "_test.go") {
			continue
		}
		src, err := os.ReadFile(name)
		if err != nil {
			t.Fatal(err)
		}
		file, err := parser.ParseFile(token.NewFileSet(), name, src, parser.ImportsOnly)
		if err != nil {
			t.Fatal(err)
		}
		for _, i := range file.Imports {
			path, err := strconv.Unquote(i.Path.Value)
			if err != nil {
				t.Fatal(err)
			}
			l = append(l, path)
		}
	}
	return l
}
