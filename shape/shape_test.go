// Package shape has tests of how the program is built: which package calls
// which, what of the library it takes, and how long its functions are.
package shape

import (
	"go/ast"
	"go/parser"
	"go/token"
	"io/fs"
	"path/filepath"
	"slices"
	"strconv"
	"strings"
	"testing"
)

const module = "ambry/"

// calls: which layers a layer calls.
var calls = map[string]string{
	"sha": "", "code": "", "disk": "", "frag": "sha code", "dir": "frag", "vol": "sha code disk frag dir", "doc": "sha disk vol",
	"ram": "", "date": "", "head": "", "chunk": "head", "http": "head chunk", "ctrl": "head", "fresh": "date head ctrl", "vary": "head",
	"cond": "date head", "policy": "sha date head ctrl fresh vary", "alts": "code date head ctrl fresh vary cond",
	"cache": "disk doc ram cond policy alts", "flow": "date head http ctrl fresh vary cond policy alts",
	"proxy": "disk http policy cache flow", "script": "disk proxy", "norm": "", "glob": "", "part": "date head cond", "acl": "head norm glob",
	"line": "date", "stat": "", "conf": "head acl", "cmd": "norm glob line stat",
	"edge":  "disk date head http cond policy alts cache flow norm glob part acl line stat conf cmd",
	"stage": "disk edge",
}

// beside: packages beside the layers, which any may call.
const beside = "api big clone text door"

const library = "bytes cmp container/heap errors iter maps math math/bits slices sort strconv strings sync sync/atomic unicode unicode/utf8"

// sources answers the program's files, tests left out, by path.
func sources(t *testing.T) (*token.FileSet, map[string]*ast.File) {
	t.Helper()
	set, files := token.NewFileSet(), map[string]*ast.File{}
	err := filepath.WalkDir("..", func(path string, d fs.DirEntry, err error) error {
		if err != nil || d.IsDir() && d.Name() == "sharedtests" {
			return fs.SkipDir
		}
		if strings.HasSuffix(path, ".go") && !strings.HasSuffix(path, "_test.go") {
			f, err := parser.ParseFile(set, path, nil, parser.ParseComments)
			if err != nil {
				return err
			}
			files[path] = f
		}
		return nil
	})
	if err != nil || len(files) < 32 {
		t.Fatal(err, len(files))
	}
	return set, files
}

func TestImports(t *testing.T) {
	_, files := sources(t)
	for path, f := range files {
		pack := filepath.Base(filepath.Dir(path))
		own, layer := calls[pack]
		for _, i := range f.Imports {
			name, _ := strconv.Unquote(i.Path.Value)
			inner, ours := strings.CutPrefix(name, module)
			switch {
			case !ours && slices.Contains(strings.Fields(library), name):
			case ours && slices.Contains(strings.Fields(beside+" "+own), inner):
			case ours && !layer && pack != "api":
			default:
				t.Errorf("%s imports %s", path, name)
			}
		}
	}
}

func TestFunctionsAreSmall(t *testing.T) {
	set, files := sources(t)
	for path, f := range files {
		for _, d := range f.Decls {
			fn, ok := d.(*ast.FuncDecl)
			if !ok {
				continue
			}
			if n := set.Position(fn.End()).Line - set.Position(fn.Pos()).Line + 1; n > 60 {
				t.Errorf("%s: %s has %d lines", path, fn.Name.Name, n)
			}
			if fn.Name.Name == "init" {
				t.Errorf("%s has an init function", path)
			}
		}
	}
}

// variables answers the names of the package's variables in f.
func variables(f *ast.File) []string {
	var names []string
	for _, d := range f.Decls {
		g, ok := d.(*ast.GenDecl)
		if !ok || g.Tok != token.VAR {
			continue
		}
		for _, s := range g.Specs {
			for _, n := range s.(*ast.ValueSpec).Names {
				names = append(names, n.Name)
			}
		}
	}
	return names
}

func TestVariablesOfPackagesAreTables(t *testing.T) { // written out where they are declared
	_, files := sources(t)
	for path, f := range files {
		for _, d := range f.Decls {
			g, ok := d.(*ast.GenDecl)
			if !ok || g.Tok != token.VAR {
				continue
			}
			for _, s := range g.Specs {
				for _, v := range s.(*ast.ValueSpec).Values {
					if _, ok := v.(*ast.CompositeLit); !ok {
						t.Errorf("%s: a variable that isn't a table", path)
					}
				}
				if len(s.(*ast.ValueSpec).Values) == 0 {
					t.Errorf("%s: a variable without a value", path)
				}
			}
		}
	}
}

// changed answers what n assigns, or takes the address of.
func changed(n ast.Node) []ast.Expr {
	switch x := n.(type) {
	case *ast.AssignStmt:
		if x.Tok != token.DEFINE {
			return x.Lhs
		}
	case *ast.RangeStmt:
		if x.Tok == token.ASSIGN {
			return []ast.Expr{x.Key, x.Value}
		}
	case *ast.IncDecStmt:
		return []ast.Expr{x.X}
	case *ast.SliceExpr:
		return []ast.Expr{x.X}
	case *ast.UnaryExpr:
		if x.Op == token.AND {
			return []ast.Expr{x.X}
		}
	}
	return nil
}

// root answers the name that e is a part of; "", if it is none's.
func root(e ast.Expr) string {
	switch x := e.(type) {
	case *ast.Ident:
		return x.Name
	case *ast.ParenExpr:
		return root(x.X)
	case *ast.IndexExpr:
		return root(x.X)
	case *ast.SelectorExpr:
		return root(x.X)
	}
	return ""
}

func TestVariablesOfPackagesStay(t *testing.T) { // none is assigned, and no address is taken: by its name, so no local one may be called the same and change
	_, files := sources(t)
	names := map[string][]string{}
	for path, f := range files {
		pack := filepath.Dir(path)
		names[pack] = append(names[pack], variables(f)...)
	}
	for path, f := range files {
		ast.Inspect(f, func(n ast.Node) bool {
			for _, e := range changed(n) {
				if name := root(e); slices.Contains(names[filepath.Dir(path)], name) {
					t.Errorf("%s: the variable %s changes", path, name)
				}
			}
			return true
		})
	}
}

func TestNoCompilersRemarks(t *testing.T) {
	_, files := sources(t)
	for path, f := range files {
		for _, c := range f.Comments {
			if strings.HasPrefix(c.List[0].Text, "//go:") {
				t.Errorf("%s: %s", path, c.List[0].Text)
			}
		}
	}
}
