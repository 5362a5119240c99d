package same

import (
	"go/ast"
	"go/parser"
	"go/token"
	"path/filepath"
	"slices"
	"strings"
	"testing"
)

// All places are asked for, each once, whatever is told of them.
func TestSomeAsksAll(t *testing.T) {
	for _, n := range []int{0, 1, 2, 3, 32, 300} {
		for _, told := range []func(i int) byte{
			func(i int) byte { return 0 },
			func(i int) byte { return 255 },
			func(i int) byte { return byte(i) },
			func(i int) byte { return byte(1 - min(i, 1)) },
		} {
			times := make([]int, n)
			some(n, func(i int) byte {
				times[i]++
				return told(i)
			})
			if slices.ContainsFunc(times, func(n int) bool { return n != 1 }) {
				t.Errorf("of %d places: %v", n, times)
			}
		}
	}
}

func TestSome(t *testing.T) {
	for n := range 4 {
		for at := range n {
			for b := range 256 {
				got := some(n, func(i int) byte {
					if i == at {
						return byte(b)
					}
					return 0
				})
				if want := min(b, 1); got != want {
					t.Errorf("%d at %d of %d: %d", b, at, n, got)
				}
			}
		}
	}
}

// The package's own files have no branch but of lengths: no answer shows if bytes were passed over, so that the code is looked at.
func TestNoBranch(t *testing.T) {
	files, err := filepath.Glob("*.go")
	if err != nil || len(files) == 0 {
		t.Fatal("no files", err)
	}
	fset := token.NewFileSet()
	for _, name := range files {
		if strings.HasSuffix(name, "_test.go") {
			continue
		}
		file, err := parser.ParseFile(fset, name, nil, 0)
		if err != nil {
			t.Fatal(err)
		}
		for _, f := range branches(file) {
			t.Errorf("%s: %s", fset.Position(f.at), f.what)
		}
	}
}

type fault struct {
	at   token.Pos
	what string
}

// branches finds what may hang on a text's bytes: what is called, compared, left early or gone over otherwise than by a number.
func branches(file *ast.File) []fault {
	var faults []fault
	tell := func(n ast.Node, what string) { faults = append(faults, fault{n.Pos(), what}) }
	ast.Inspect(file, func(n ast.Node) bool {
		switch x := n.(type) {
		case *ast.ImportSpec:
			tell(x, "it calls nothing")
		case *ast.IfStmt:
			if !ofLengths(x.Cond) {
				tell(x, "an if of something else than lengths")
			}
		case *ast.BinaryExpr:
			if isComparison(x.Op) && !ofLengths(x) && !isBit(x) {
				tell(x, "a comparison of something else than lengths")
			}
		case *ast.CallExpr:
			if isName(x.Fun, "min") || isName(x.Fun, "max") {
				tell(x, "a comparison that has another name")
			}
		case *ast.ForStmt, *ast.SwitchStmt, *ast.BranchStmt, *ast.MapType:
			tell(x, "a way that may hang on bytes")
		case *ast.RangeStmt:
			if !isNumber(x.X) {
				tell(x, "a range over something else than a number")
			}
			for _, r := range returns(x.Body) {
				tell(r, "a range that is left")
			}
		}
		return true
	})
	return faults
}

func isComparison(op token.Token) bool {
	return slices.Contains([]token.Token{token.EQL, token.NEQ, token.LSS, token.LEQ, token.GTR, token.GEQ, token.LAND, token.LOR}, op)
}

// ofLengths says of a condition whether it compares two lengths.
func ofLengths(e ast.Expr) bool {
	x, ok := e.(*ast.BinaryExpr)
	return ok && isLength(x.X) && isLength(x.Y)
}

// isBit says whether it is Bit's answer that is compared, which Equal makes a bool of.
func isBit(x *ast.BinaryExpr) bool {
	call, ok := x.X.(*ast.CallExpr)
	return ok && isName(call.Fun, "Bit")
}

func isLength(e ast.Expr) bool {
	call, ok := e.(*ast.CallExpr)
	return ok && isName(call.Fun, "len")
}

// isNumber says of what is ranged over whether it is a length, or the number n of them.
func isNumber(e ast.Expr) bool { return isLength(e) || isName(e, "n") }

func isName(e ast.Expr, name string) bool {
	id, ok := e.(*ast.Ident)
	return ok && id.Name == name
}

func returns(n ast.Node) []ast.Node {
	var l []ast.Node
	ast.Inspect(n, func(n ast.Node) bool {
		if r, ok := n.(*ast.ReturnStmt); ok {
			l = append(l, r)
		}
		return true
	})
	return l
}

// What the look at the code finds, and what it lets pass.
func TestBranches(t *testing.T) {
	for _, c := range []struct {
		code   string
		faults int
	}{
		{"func f(a, b string) int { if len(a) != len(b) { return 0 }; for i := range len(a) { _ = i }; return 1 }", 0},
		{"func f(a, b string) bool { return Bit(a, b) == 1 }", 0},
		{"func f(a, b string) bool { return a == b }", 1},
		{"func f(a, b string) int { for i := range len(a) { if a[i] != b[i] { return 0 } }; return 1 }", 3},
		{"func f(a string) int { for i := range a { _ = i }; return 1 }", 1},
		{"func f(a string) { for i := 0; a[i] > 0; i++ {} }", 2},
		{"func f(a string) { for i := range len(a) { _ = i; break } }", 1},
		{"func f(a string) int { switch a[0] { case 0: return 0 }; return 1 }", 1},
		{"func f(a bool) int { if a { return 0 }; return 1 }", 1},
		{"func f(a, b bool) bool { return a && b }", 1},
		{"import \"strings\"; func f(a, b string) int { return strings.Compare(a, b) }", 1},
		{"func f(a, b byte) byte { return max(a, b) - min(a, b) }", 2},
		{"func f(a byte) int { return map[byte]int{1: 1}[a] }", 1},
	} {
		file, err := parser.ParseFile(token.NewFileSet(), "f.go", "package f; "+c.code, 0)
		if err != nil {
			t.Fatal(c.code, err)
		}
		if l := branches(file); len(l) != c.faults {
			t.Errorf("%s: %v, asked %d", c.code, l, c.faults)
		}
	}
}
