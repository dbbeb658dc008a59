package tests

import (
	"bytes"
	"go/ast"
	"go/build"
	"go/constant"
	"go/format"
	"go/importer"
	"go/parser"
	"go/token"
	"go/types"
	"os"
	"os/exec"
	"path/filepath"
	"strconv"
	"strings"
	"testing"
)

// What the language page rules out, as far as the text of the program shows it.

const ownModule = "loop.example/g01412"
const maxFunctionLines = 60
const maxTableParts = 250

const libraryAllowed = " bytes cmp container/heap errors iter maps math math/bits slices sort strconv strings sync sync/atomic unicode unicode/utf8 "
const syncAllowed = " Mutex RWMutex WaitGroup Once "

type languageCheck struct {
	fset   *token.FileSet
	info   *types.Info
	faults []string
}

func (c *languageCheck) fault(n token.Pos, text string) {
	c.faults = append(c.faults, c.fset.Position(n).String()+": "+text)
}

// sourceImporter is one for all checks of a test, for it keeps the packages that it has read.
func sourceImporter(fset *token.FileSet) types.Importer {
	if build.Default.GOROOT == "" {
		out, _ := exec.Command("go", "env", "GOROOT").Output()
		build.Default.GOROOT = strings.TrimSpace(string(out))
	}
	return importer.ForCompiler(fset, "source", nil)
}

// languageFaults: what is wrong in the files of one package, by their names.
func languageFaults(fset *token.FileSet, imp types.Importer, sources map[string]string) ([]string, error) {
	c := &languageCheck{fset: fset, info: &types.Info{
		Types: map[ast.Expr]types.TypeAndValue{},
		Uses:  map[*ast.Ident]types.Object{},
		Defs:  map[*ast.Ident]types.Object{},
	}}
	var files []*ast.File
	for name, text := range sources {
		f, err := parser.ParseFile(fset, name, text, parser.ParseComments)
		if err != nil {
			return nil, err
		}
		files = append(files, f)
		if out, err := format.Source([]byte(text)); err != nil || !bytes.Equal(out, []byte(text)) {
			c.fault(f.Package, "not in gofmt's layout")
		}
	}
	for _, f := range files {
		c.imports(f)
		c.comments(f)
	}
	if len(c.faults) > 0 { // what is not allowed need not even be there to be read
		return c.faults, nil
	}
	conf := types.Config{Importer: imp}
	if _, err := conf.Check(ownModule+"/impl", fset, files, c.info); err != nil {
		return nil, err
	}
	for _, f := range files {
		c.declarations(f)
		ast.Inspect(f, c.node)
	}
	return c.faults, nil
}

func (c *languageCheck) imports(f *ast.File) {
	for _, i := range f.Imports {
		path, _ := strconv.Unquote(i.Path.Value)
		if !strings.HasPrefix(path, ownModule+"/") && !strings.Contains(libraryAllowed, " "+path+" ") {
			c.fault(i.Pos(), "import of "+path)
		}
	}
}

func (c *languageCheck) comments(f *ast.File) {
	for _, g := range f.Comments {
		for _, m := range g.List {
			if strings.HasPrefix(m.Text, "//go:") || strings.HasPrefix(m.Text, "// +build") {
				c.fault(m.Pos(), "line for the compiler")
			}
		}
	}
}

func (c *languageCheck) declarations(f *ast.File) {
	for _, d := range f.Decls {
		switch x := d.(type) {
		case *ast.FuncDecl:
			lines := c.fset.Position(x.End()).Line - c.fset.Position(x.Pos()).Line + 1
			if lines > maxFunctionLines {
				c.fault(x.Pos(), "function of too many lines")
			}
		case *ast.GenDecl:
			if x.Tok == token.VAR {
				for _, s := range x.Specs {
					c.packageVariable(s.(*ast.ValueSpec))
				}
			}
		}
	}
}

func (c *languageCheck) packageVariable(s *ast.ValueSpec) {
	if len(s.Values) != len(s.Names) {
		c.fault(s.Pos(), "package variable without a value of its own")
		return
	}
	for i, n := range s.Names {
		t := c.info.Types[s.Values[i]].Type
		if call, ok := s.Values[i].(*ast.CallExpr); ok {
			if types.ExprString(call.Fun) != "errors.New" {
				c.fault(n.Pos(), "package variable made by a call")
			}
			continue
		}
		if b, ok := t.Underlying().(*types.Basic); ok && b.Info()&types.IsString != 0 {
			c.fault(n.Pos(), "package text that is no constant")
		}
		if !plainTable(t) {
			c.fault(n.Pos(), "package variable of a kind that may not stand there")
		}
		c.tableParts(s.Values[i])
	}
}

// plainTable: numbers, texts and bools, and structs, arrays and slices of these.
func plainTable(t types.Type) bool {
	switch x := t.Underlying().(type) {
	case *types.Basic:
		return x.Info()&(types.IsInteger|types.IsString|types.IsBoolean) != 0
	case *types.Array:
		return plainTable(x.Elem())
	case *types.Slice:
		return plainTable(x.Elem())
	case *types.Struct:
		for i := range x.NumFields() {
			if !plainTable(x.Field(i).Type()) {
				return false
			}
		}
		return true
	}
	return false
}

func (c *languageCheck) tableParts(e ast.Expr) {
	parts := 0
	ast.Inspect(e, func(n ast.Node) bool {
		switch x := n.(type) {
		case *ast.BasicLit:
			parts++
		case *ast.CallExpr:
			if !c.info.Types[x.Fun].IsType() {
				c.fault(x.Pos(), "call in the value of a package variable")
			}
		case *ast.Ident:
			if c.isPackageVariable(x) {
				c.fault(x.Pos(), "package variable that names another")
			}
		}
		return true
	})
	if parts > maxTableParts {
		c.fault(e.Pos(), "package table of too many parts")
	}
}

func (c *languageCheck) isPackageVariable(n *ast.Ident) bool {
	v, ok := c.info.Uses[n].(*types.Var)
	return ok && !v.IsField() && v.Pkg() != nil && v.Parent() == v.Pkg().Scope()
}

// written: is it, or a part of it, a variable at package level?
func (c *languageCheck) written(e ast.Expr) bool {
	switch x := e.(type) {
	case *ast.Ident:
		return c.isPackageVariable(x)
	case *ast.ParenExpr:
		return c.written(x.X)
	case *ast.IndexExpr:
		return c.written(x.X)
	case *ast.SelectorExpr:
		return c.written(x.X)
	}
	return false
}

func (c *languageCheck) node(n ast.Node) bool {
	switch x := n.(type) {
	case *ast.AssignStmt:
		for _, l := range x.Lhs {
			if c.written(l) {
				c.fault(l.Pos(), "package variable assigned again")
			}
		}
	case *ast.IncDecStmt:
		if c.written(x.X) {
			c.fault(x.Pos(), "package variable assigned again")
		}
	case *ast.UnaryExpr:
		if x.Op == token.AND && c.written(x.X) {
			c.fault(x.Pos(), "address of a package variable")
		}
	case *ast.CallExpr:
		c.call(x)
	case *ast.CompositeLit:
		c.mapMade(x, c.info.Types[x].Type)
	case *ast.SelectorExpr:
		c.libraryName(x)
	}
	return true
}

func (c *languageCheck) call(x *ast.CallExpr) {
	if f, ok := x.Fun.(*ast.Ident); ok {
		if b, ok := c.info.Uses[f].(*types.Builtin); ok {
			switch b.Name() {
			case "print", "println":
				c.fault(x.Pos(), "printing")
			case "make":
				c.mapMade(x, c.info.Types[x].Type)
			}
		}
	}
	if len(x.Args) != 1 || !c.info.Types[x.Fun].IsType() {
		return
	}
	v := c.info.Types[x.Args[0]].Value
	if l, ok := c.info.Types[x.Fun].Type.Underlying().(*types.Slice); ok && v != nil && v.Kind() == constant.String {
		if types.Identical(l.Elem().Underlying(), types.Typ[types.Int32]) {
			c.fault(x.Pos(), "runes of a constant text")
		}
	}
}

func (c *languageCheck) mapMade(n ast.Node, t types.Type) {
	m, ok := t.Underlying().(*types.Map)
	if !ok {
		return
	}
	if b, ok := m.Elem().Underlying().(*types.Basic); ok && b.Info()&(types.IsString|types.IsBoolean) != 0 {
		c.fault(n.Pos(), "map with texts or bools as values")
	}
}

func (c *languageCheck) libraryName(x *ast.SelectorExpr) {
	o := c.info.Uses[x.Sel]
	if o == nil || o.Pkg() == nil || o.Parent() != o.Pkg().Scope() {
		return
	}
	switch {
	case o.Pkg().Path() == "iter" && strings.HasPrefix(o.Name(), "Pull"):
		c.fault(x.Pos(), "iter."+o.Name())
	case o.Pkg().Path() == "sync" && !strings.Contains(syncAllowed, " "+o.Name()+" "):
		c.fault(x.Pos(), "sync."+o.Name())
	}
}

func TestProgramKeepsToTheLanguage(t *testing.T) {
	entries, err := os.ReadDir("../impl")
	if err != nil {
		t.Fatal(err)
	}
	sources := map[string]string{}
	for _, e := range entries {
		if e.IsDir() || filepath.Ext(e.Name()) != ".go" {
			t.Errorf("impl/%s is no Go file", e.Name())
			continue
		}
		text, err := os.ReadFile(filepath.Join("../impl", e.Name()))
		if err != nil {
			t.Fatal(err)
		}
		if !strings.HasSuffix(e.Name(), "_test.go") {
			sources["impl/"+e.Name()] = string(text)
		}
	}
	if len(sources) == 0 {
		t.Fatal("no program")
	}
	fset := token.NewFileSet()
	faults, err := languageFaults(fset, sourceImporter(fset), sources)
	if err != nil {
		t.Fatal(err)
	}
	for _, f := range faults {
		t.Error(f)
	}
}

// A check that finds nothing anywhere would pass every program.
func TestLanguageCheckFindsFaults(t *testing.T) {
	long := "func f() {\n" + strings.Repeat("\tf()\n", maxFunctionLines) + "}\n"
	great := "var v = []int{" + strings.Repeat("1, ", maxTableParts) + "1}\n\nfunc f() int { return v[0] }\n"
	fset := token.NewFileSet()
	imp := sourceImporter(fset)
	for _, row := range [][2]string{
		{"import \"fmt\"\n\nfunc f() string { return fmt.Sprint(1) }\n", "import of fmt"},
		{"import \"unsafe\"\n\nvar v unsafe.Pointer\n", "import of unsafe"},
		{"import \"sync\"\n\nfunc f(p *sync.Pool) any { return p.Get() }\n", "sync.Pool"},
		{"import \"iter\"\n\nfunc f(s iter.Seq[int]) { iter.Pull(s) }\n", "iter.Pull"},
		{"//go:noinline\nfunc f() {}\n", "line for the compiler"},
		{"func f()  {}\n", "gofmt"},
		{"func f() { println(1) }\n", "printing"},
		{"func f() []rune { return []rune(\"ab\") }\n", "runes of a constant"},
		{"func f() int { return len(map[int]bool{1: true}) }\n", "map with"},
		{"func f() int { return len(make(map[int]string)) }\n", "map with"},
		{"var v int\n", "without a value"},
		{"var v = \"text\"\n", "no constant"},
		{"var v = 1.5\n", "may not stand"},
		{"var v = map[int]int{}\n", "may not stand"},
		{"var v = func() {}\n", "may not stand"},
		{"var v = f()\n\nfunc f() int { return 1 }\n", "made by a call"},
		{"var v = []int{f()}\n\nfunc f() int { return 1 }\n", "call in the value"},
		{"var v = []int{w}\n\nvar w = 1\n", "names another"},
		{"var v = 1\n\nfunc f() { v = 2 }\n", "assigned again"},
		{"var v = 1\n\nfunc f() { v++ }\n", "assigned again"},
		{"var v = [2]int{1, 2}\n\nfunc f() { v[0] = 2 }\n", "assigned again"},
		{"var v = [2]int{1, 2}\n\nfunc f() *int { return &v[0] }\n", "address"},
		{long, "too many lines"},
		{great, "too many parts"},
		{"import \"errors\"\n\nvar v = errors.New(\"x\")\n\nvar w = [2]int{1, 2}\n", ""},
	} {
		text, want := row[0], row[1]
		faults, err := languageFaults(fset, imp, map[string]string{"x.go": "package impl\n\n" + text})
		if err != nil {
			t.Errorf("%q: %v", text, err)
			continue
		}
		all := strings.Join(faults, "\n")
		if want == "" && all != "" || want != "" && !strings.Contains(all, want) {
			t.Errorf("%q: %q, want %q", text, all, want)
		}
	}
}
