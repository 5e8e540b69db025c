// Package rules has no code: it holds the files of all packages to what they may be written with.
package rules_test

import (
	"go/parser"
	"go/token"
	"io/fs"
	"os"
	"path/filepath"
	"slices"
	"strconv"
	"strings"
	"testing"
)

const root = ".."

// named are the packages of the library that rule 1 of shared/LANGUAGE.md names.
var named = strings.Fields("bytes cmp container/heap errors iter maps math math/bits slices sort strconv strings sync sync/atomic unicode unicode/utf8")

// strange answers those of a file's imports that are neither named nor the project's own.
func strange(t *testing.T, path string, text []byte) []string {
	t.Helper()
	file, err := parser.ParseFile(token.NewFileSet(), path, text, parser.ImportsOnly)
	if err != nil {
		t.Fatal(err)
	}
	var l []string
	for _, spec := range file.Imports {
		name, err := strconv.Unquote(spec.Path.Value)
		if err != nil {
			t.Fatal(err)
		}
		if !slices.Contains(named, name) && !strings.HasPrefix(name, "tappet/") {
			l = append(l, name)
		}
	}
	return l
}

// isLaid tells whether a folder at the root is laid beside the project to check it: none of the project's own may be named so.
func isLaid(name string) bool {
	return name == "sharedtests" || name == "form" || name == "try" || strings.HasPrefix(name, "tappet") || strings.HasPrefix(name, ".")
}

// files answers the paths of the project's files that are compiled into it, from the root on.
func files(t *testing.T) []string {
	t.Helper()
	var l []string
	err := fs.WalkDir(os.DirFS(root), ".", func(path string, entry fs.DirEntry, err error) error {
		if err != nil {
			return err
		}
		if entry.IsDir() && path != "." && isLaid(path) {
			return fs.SkipDir
		}
		if !entry.IsDir() && strings.HasSuffix(path, ".go") && !strings.HasSuffix(path, "_test.go") {
			l = append(l, path)
		}
		return nil
	})
	if err != nil {
		t.Fatal(err)
	}
	return l
}

// Rule 1: no file that is no test file imports a package that is not named there.
func TestImports(t *testing.T) {
	for _, path := range files(t) {
		text, err := os.ReadFile(filepath.Join(root, path))
		if err != nil {
			t.Fatal(err)
		}
		for _, name := range strange(t, path, text) {
			t.Errorf("%s imports %s", path, name)
		}
	}
}

// The files that are looked at are those of the layers, and of the packages beside them.
func TestFiles(t *testing.T) {
	l := files(t)
	for _, path := range []string{"api/api.go", "crc/crc.go", "yard/yard.go", "sample/sample.go", "sample/program.go", "way/way.go"} {
		if !slices.Contains(l, path) {
			t.Errorf("%s is not looked at", path)
		}
	}
	for _, path := range l {
		if strings.HasSuffix(path, "_test.go") || strings.HasPrefix(path, "sharedtests/") {
			t.Errorf("%s is looked at", path)
		}
	}
}

// However a package is imported, it is seen.
func TestStrange(t *testing.T) {
	for text, want := range map[string][]string{
		"package a":                                    nil,
		"package a\nimport \"strings\"":                nil,
		"package a\nimport \"tappet/api\"":             nil,
		"package a\nimport \"fmt\"":                    {"fmt"},
		"package a\nimport `fmt`":                      {"fmt"},
		"package a\nimport f \"fmt\"":                  {"fmt"},
		"package a\nimport _ \"unsafe\"":               {"unsafe"},
		"package a\nimport . \"reflect\"":              {"reflect"},
		"package a\nimport \"C\"":                      {"C"},
		"package a\nimport \"example.org/tappet/api\"": {"example.org/tappet/api"},
		"//go:build ignore\n\npackage a\nimport (\n\"math/bits\"\n\"math/rand\"\n\"strconv\"\n\"os\"\n)\nvar x = 1": {"math/rand", "os"},
	} {
		if got := strange(t, "a.go", []byte(text)); !slices.Equal(got, want) {
			t.Errorf("of %q these are strange: %v, want %v", text, got, want)
		}
	}
	for _, name := range named {
		if got := strange(t, "a.go", []byte("package a\nimport "+strconv.Quote(name))); got != nil {
			t.Errorf("%v is strange", got)
		}
	}
	for _, name := range strings.Fields("fmt encoding/json regexp context time os net math/rand math/cmplx log testing unsafe reflect embed io bufio container/list tappetx") {
		if got := strange(t, "a.go", []byte("package a\nimport "+strconv.Quote(name))); !slices.Equal(got, []string{name}) {
			t.Errorf("of %s these are strange: %v", name, got)
		}
	}
}
