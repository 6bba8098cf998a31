package expr_test

import (
	"strings"
	"testing"

	"sieve/api"
	"sieve/expr"
)

func checkActs(t *testing.T, args string, want bool) {
	t.Helper()
	test, errno, _ := expr.Parse(strings.Fields(args))
	if got := expr.Acts(test); got != want || errno != api.OK {
		t.Errorf("Acts of %q = %v, want %v (%d)", args, got, want, errno)
	}
}

// H3: at the top, below each sign and on each side of it, and without any.
func TestActs(t *testing.T) {
	around := []string{
		"%", "! %", "% -true", "-true %", "% -o -true", "-true -o %", "% , -true", "-true , %", "( % )", "! ! %",
		"-true -o ( -false , ! ( -empty -a % ) )", "( ( % , -true ) -o -true ) -true", "-name a -type d -size 1 -regex b -o -false %",
		"-true -true -true -true -true -true -true -true % -true -true -true -true -true -true -true",
		strings.Repeat("! ", 20) + "%", strings.Repeat("-false -o ( ", 20) + "%" + strings.Repeat(" )", 20), strings.Repeat("( ", 20) + "%" + strings.Repeat(" -o -false )", 20),
	}
	for _, one := range around {
		for _, primary := range []string{"-print", "-print0", "-quit"} {
			checkActs(t, strings.ReplaceAll(one, "%", primary), true)
		}
		for _, primary := range []string{"-true", "-false", "-empty", "-prune", "-ignored", "-name -print", "-iname -print0", "-path -quit", "-regex -print", "-type f", "-size 1", "-time 1"} {
			checkActs(t, strings.ReplaceAll(one, "%", primary), false)
		}
	}
	checkActs(t, "", false)
	checkActs(t, "-print -quit", true)
}

// H3: of Tests that Parse does not answer.
func TestActsOfOthers(t *testing.T) {
	for _, c := range []struct {
		test api.Test
		want bool
	}{
		{api.Test{}, false},
		{api.Test{Op: "print"}, false},
		{api.Test{Op: "-print1"}, false},
		{api.Test{Op: "-PRINT"}, false},
		{api.Test{Text: "-print"}, false},
		{op("-true", op("-print")), true},
		{op("", op("", op("-quit"))), true},
		{op("!", op("-true"), op("-false"), op("-empty"), op("-print0")), true},
		{op("!", op("-true"), op("-false"), op("-empty"), op("-prune")), false},
		{op("-print", op("-true")), true},
	} {
		if got := expr.Acts(c.test); got != c.want {
			t.Errorf("Acts(%v) = %v", c.test, got)
		}
	}
}

// H3: at whatever depth, also where a call for each would be too deep.
func TestActsFarBelow(t *testing.T) {
	deep := make([]api.Test, 5_000_000)
	last := len(deep) - 1
	for k := range last {
		deep[k] = api.Test{Op: "!", Kids: deep[k+1 : k+2]}
	}
	if expr.Acts(deep[0]) {
		t.Error("Acts of a deep Test without any")
	}
	deep[last].Op = "-quit"
	if !expr.Acts(deep[0]) {
		t.Error("Acts of a deep Test")
	}
	wide := op(",", make([]api.Test, 1_000_000)...)
	if expr.Acts(wide) {
		t.Error("Acts of a wide Test without any")
	}
	wide.Kids[0].Op = "-print0"
	if !expr.Acts(wide) {
		t.Error("Acts of a wide Test")
	}
}

// What holds everywhere: what is handed in is not changed.
func TestActsChangesNothing(t *testing.T) {
	kids := make([]api.Test, 2, 10)
	kids[0], kids[1] = op("-true", op("-false"), op("-empty")), op("!", op("-prune"))
	expr.Acts(op("-o", kids...))
	if kids[0].Op != "-true" || kids[1].Op != "!" || kids[:3][2].Op != "" || kids[0].Kids[1].Op != "-empty" {
		t.Errorf("Acts has changed what it was given: %v", kids)
	}
}
