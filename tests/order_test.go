package tests

import (
	"go/ast"
	"go/parser"
	"go/token"
	"path/filepath"
	"slices"
	"testing"

	"loop.example/ballast/impl"
)

// Go orders the calls of a statement among each other, but not a call against a field that is read beside it: such a statement may have two answers, of which no run shows the other one. So the program's text is looked at.

// changing is the names of the methods that can change what they are called on.
func changing(files []*ast.File) []string {
	names := []string{}
	for _, f := range files {
		for _, d := range f.Decls {
			if m, ok := d.(*ast.FuncDecl); ok && m.Recv != nil {
				if _, pointer := m.Recv.List[0].Type.(*ast.StarExpr); pointer {
					names = append(names, m.Name.Name)
				}
			}
		}
	}
	return names
}

// asked is what a statement has evaluated together, without the statements inside it.
func asked(n ast.Node) []ast.Expr {
	switch s := n.(type) {
	case *ast.ReturnStmt:
		return s.Results
	case *ast.AssignStmt:
		all := slices.Clone(s.Rhs)
		for _, e := range s.Lhs {
			// A field that is only written is not read.
			if _, field := e.(*ast.SelectorExpr); !field {
				all = append(all, e)
			}
		}
		return all
	case *ast.ExprStmt:
		return []ast.Expr{s.X}
	case *ast.ValueSpec:
		return s.Values
	case *ast.IfStmt:
		return []ast.Expr{s.Cond}
	case *ast.ForStmt:
		return []ast.Expr{s.Cond}
	case *ast.RangeStmt:
		return []ast.Expr{s.X}
	case *ast.SwitchStmt:
		return []ast.Expr{s.Tag}
	}
	return nil
}

// each goes through expressions, without the bodies of function literals and without what skip says.
func each(all []ast.Expr, skip ast.Node, see func(ast.Node)) {
	for _, e := range all {
		if e == nil {
			continue
		}
		ast.Inspect(e, func(n ast.Node) bool {
			if _, literal := n.(*ast.FuncLit); literal || n == nil || n == skip {
				return false
			}
			see(n)
			return true
		})
	}
}

// rootOf is the name at which a chain of fields begins.
func rootOf(e ast.Expr) string {
	for {
		switch x := e.(type) {
		case *ast.Ident:
			return x.Name
		case *ast.SelectorExpr:
			e = x.X
		default:
			return ""
		}
	}
}

// unordered is the places of statements that read a field of a thing beside a call that may change it.
func unordered(files []*ast.File) []token.Pos {
	methods := changing(files)
	found := []token.Pos{}
	see := func(all []ast.Expr) {
		each(all, nil, func(n ast.Node) {
			call, ok := n.(*ast.CallExpr)
			if !ok {
				return
			}
			of, ok := call.Fun.(*ast.SelectorExpr)
			if !ok || !slices.Contains(methods, of.Sel.Name) {
				return
			}
			called := map[ast.Node]bool{}
			each(all, call, func(n ast.Node) {
				if other, ok := n.(*ast.CallExpr); ok {
					called[other.Fun] = true
				}
				if field, ok := n.(*ast.SelectorExpr); ok && !called[n] && rootOf(field) == rootOf(of) {
					found = append(found, n.Pos())
				}
			})
		})
	}
	for _, f := range files {
		ast.Inspect(f, func(n ast.Node) bool {
			see(asked(n))
			return true
		})
	}
	return found
}

func TestNothingIsReadBesideACallThatChangesIt(t *testing.T) {
	names, err := filepath.Glob("../impl/*.go")
	if err != nil || len(names) < 4 {
		t.Fatal(names, err)
	}
	set := token.NewFileSet()
	files := []*ast.File{}
	for _, name := range names {
		f, err := parser.ParseFile(set, name, nil, 0)
		if err != nil {
			t.Fatal(err)
		}
		files = append(files, f)
	}
	for _, at := range unordered(files) {
		t.Errorf("%s: read beside a call that may change it", set.Position(at))
	}
}

func TestSuchAReadingIsFound(t *testing.T) {
	for body, want := range map[string]bool{
		"return c.run(1), c.parts":           true,
		"return c.parts, c.run(1)":           true,
		"a := list{c.a.at, c.run(1)}; _ = a": true,
		"x[c.at] = c.run(1)":                 true,
		"if c.run(1) > c.at { return }":      true,
		"for c.run(1) > c.at { return }":     true,
		"var a, b = c.run(1), c.at":          true,
		"see(c.at, c.run(c.at))":             true,
		"a := c.run(1); return a, c.at":      false,
		"c.at = c.run(1)":                    false,
		"a := c.run(c.at); _ = a":            false,
		"return c.run(1), d.at":              false,
		"return c.look(), c.at":              false,
		"return c.run(1), c.run(2)":          false,
		"if a := c.run(1); a > 0 { c.at++ }": false,
	} {
		text := "package p\nfunc (c *cursor) run(far int) int { c.at++; return c.at }\nfunc (c cursor) look() int { return c.at }\nfunc f() {\n" + body + "\n}\n"
		f, err := parser.ParseFile(token.NewFileSet(), "p.go", text, 0)
		if err != nil {
			t.Fatal(body, err)
		}
		if got := len(unordered([]*ast.File{f})) > 0; got != want {
			t.Errorf("%s: found %v", body, got)
		}
	}
}

func TestPartsAreThoseOfTheWholeDrive(t *testing.T) {
	n := shuttle(piece("a", 5))
	lies := []int{0, 0}
	if got := impl.Ahead(n, lies, spot(0, 0, 1), 3); !slices.Equal(got, []impl.Part{part(0, 0, 3)}) {
		t.Error(got)
	}
	if got := impl.Behind(n, lies, spot(0, 4, 1), 3); !slices.Equal(got, []impl.Part{part(0, 1, 4)}) {
		t.Error(got)
	}
}
