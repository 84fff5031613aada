package check_test

import (
	"fmt"
	"go/parser"
	"go/token"
	"strings"
	"testing"

	"moniker/api"
	"moniker/check"
	"moniker/modules"
	"moniker/scope"
	"moniker/types"
)

// shapes are statements with two operands, X and Y, of which MiniGo takes what Go takes, whatever the operands are.
var shapes = []string{
	"_ = X + Y", "_ = X - Y", "_ = X << Y", "_ = X && Y", "_ = X < Y", "_ = -X", "_ = !X", "_ = *X", "_ = &X", "X = Y", "X += Y", "X <<= Y", "X++", "X", "X()", "_ = X(Y)", "X(Y)", "a, b := X; _, _ = a, b", "a, b := X[Y]; _, _ = a, b", "var a, b bool = X[Y]; _, _ = a, b", "a := X; _ = a", "_ = X", "if X { }", "for X { }", "for range X { }", "for a, b := range X { _, _ = a, b }", "for a := range X { _ = a }",
	"switch a := X.(type) { default: _ = a }", "switch X.(type) { case T, *E: }", "_ = X.(T)", "_ = X.(J)", "_ = X.(S)", "_ = append(X, Y)", "_ = copy(X, Y)", "delete(X, Y)", "_ = len(X)", "_ = make(X, Y)", "take(X, Y)", "take(X)", "takeI(X)", "func() int { return X }()", "func() (int, T) { return X, Y }()", "func() (int, string) { return X }()", "_ = T(X)", "_ = B(X)", "_ = L(X)", "_ = I(X)", "_ = Any(X)", "_ = (*S)(X)", "_ = M(X)", "_ = F(X)",
	"_ = S{X, Y, nil}", "_ = S{a: X, b: Y}", "_ = S{next: X}", "_ = []int{X, Y}", "_ = []int{X: Y}", "_ = map[T]string{X: Y}", "_ = []I{X, Y}", "_ = E{S: X, R: Y}", "const c = X; _ = c", "const c T = X; _ = c", "var a T = X; _ = a", "var a Any = X; _ = a", "var a F = X; _ = a", "_ = X.a", "_ = X.b", "_ = X.m", "_ = X.n", "_ = X.R", "_ = X.S", "_ = X.q", "X.q(1)", "_ = X.next.next", "X.a = 1", "_ = &X.a", "_ = X.zz", "return X", "var a, b = X, Y; _, _ = a, b", "_, _ = X, Y", "X, _ = Y, 1", "X, Y = Y, X", "X, Y = two()",
}

// operands are the things of which shapes are filled, with what declares them.
func operands() (string, []string) {
	lines := prelude + "func none() { }\nfunc one() int { return 1 }\nfunc two() (int, int) { return 1, 2 }\nfunc mixed() (int, string) { return 1, \"\" }\nfunc take(a, b int) { }\nfunc takeI(i I) { }\nconst K = 3\nconst KT T = 4\nconst KS = \"k\"\n"
	all := []string{"1", `"a"`, "true", "nil", "K", "KT", "KS", "none()", "one()", "two()", "mixed()", "T", "none", "E{}", "&E{}", "S{}"}
	for i, k := range kinds {
		lines += fmt.Sprintf("var o%d %s\n", i, k)
		all = append(all, fmt.Sprintf("o%d", i))
	}
	return lines, all
}

// whyOf is what Check tells of files; false: a layer below refuses them.
func whyOf(given []api.File) (api.Errno, bool) {
	p, f := modules.Load(given)
	if f.Why != api.OK {
		return f.Why, false
	}
	s, f := scope.Resolve(p)
	if f.Why != api.OK {
		return f.Why, false
	}
	x, f := types.Make(p, s)
	if f.Why != api.OK {
		return f.Why, false
	}
	_, f = check.Check(p, s, x)
	return f.Why, true
}

// TestGoStatements: single statements of all sorts, with all sorts of operands, have faults just where Go refuses them (12.3, 12.4).
func TestGoStatements(t *testing.T) {
	r := chance(90)
	lines, all := operands()
	right, whys := 0, map[api.Errno]int{}
	for range 1500 {
		stmt := strings.NewReplacer("X", pick(r, all...), "Y", pick(r, all...)).Replace(pick(r, shapes...))
		given := []api.File{{Name: "a.go", Text: lines + "func main() {\n" + stmt + "\n}\n"}}
		why, ok := whyOf(given)
		if _, err := parser.ParseFile(token.NewFileSet(), "", given[0].Text, 0); !ok || err != nil {
			continue
		}
		errs := goOf(t, given).errs
		if (why == api.OK) != (len(errs) == 0) {
			t.Errorf("12.3, 12.4: %s: %d, in Go %v", stmt, why, errs)
		}
		if whys[why]++; why == api.OK {
			right++
		}
	}
	if right < 150 || len(whys) < 12 {
		t.Errorf("only %d without faults, and %v", right, whys)
	}
}
