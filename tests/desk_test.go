package tests

import (
	"cmp"
	"math"
	"math/rand"
	"regexp"
	"slices"
	"strconv"
	"strings"
	"testing"

	"loop.example/instancesearch/impl"
)

func TestLimitsOfScripts(t *testing.T) {
	if impl.MaxScript != 20000 || impl.MaxLines != 100 || impl.MaxOutput != 40000 {
		t.Error("the limits of scripts are others")
	}
}

func TestFormatNumbers(t *testing.T) {
	for _, c := range []struct {
		want string
		list []int
	}{
		{"-", nil}, {"-", []int{}}, {"0", []int{0}}, {"-1", []int{-1}}, {"7", []int{7}}, {"0 0", []int{0, 0}}, {"1 0 -3", []int{1, 0, -3}}, {"10 9 100 9", []int{10, 9, 100, 9}}, {"-10 -100 1000000", []int{-10, -100, 1000000}},
		{"9223372036854775807 -9223372036854775808", []int{math.MaxInt, math.MinInt}}, {"-9223372036854775807 4294967296 -2147483648", []int{math.MinInt + 1, 1 << 32, math.MinInt32}},
	} {
		if got := impl.FormatNumbers(c.list); got != c.want {
			t.Errorf("FormatNumbers(%v) = %q", c.list, got)
		}
	}
}

func TestFormatTexts(t *testing.T) {
	for _, c := range []struct {
		want string
		list []string
	}{
		{"-", nil}, {"-", []string{}}, {"-", []string{""}}, {" ", []string{"", ""}}, {"  ", []string{"", "", ""}}, {"i", []string{"i"}}, {"i b", []string{"i", "b"}}, {"b i b", []string{"b", "i", "b"}},
		{"i ", []string{"i", ""}}, {" i", []string{"", "i"}}, {"i  b", []string{"i", "", "b"}}, {"-", []string{"-"}}, {"- -", []string{"-", "-"}}, {"   ", []string{" ", " "}}, {" ", []string{" "}}, {"a b c\n", []string{"a b", "c\n"}},
		{"\x00 \xff\xfe \n", []string{"\x00", "\xff\xfe", "\n"}}, {strings.Repeat("x ", 4999) + "x", slices.Repeat([]string{"x"}, 5000)},
	} {
		if got := impl.FormatTexts(c.list); got != c.want {
			t.Errorf("FormatTexts(%.300q) = %.300q", c.list, got)
		}
	}
}

func TestFormattedListsAreLeftAsTheyAre(t *testing.T) {
	numbers, texts := []int{3, 1, 2, 9}, []string{"c", "a", "b", "z"}
	impl.FormatNumbers(numbers[:2])
	impl.FormatTexts(texts[:2])
	if !slices.Equal(numbers, []int{3, 1, 2, 9}) || !slices.Equal(texts, []string{"c", "a", "b", "z"}) {
		t.Errorf("the lists became %v and %q", numbers, texts)
	}
}

// checkScript holds the output of a script against a text.
func checkScript(t *testing.T, script, want string) {
	t.Helper()
	if got := impl.RunScript(script); got != want {
		t.Errorf("RunScript(%.400q) = %.400q, want %.400q", script, got, want)
	}
}

// checkLines runs a script of lines, each of which stands before its own output.
func checkLines(t *testing.T, linesAndOutputs ...string) {
	t.Helper()
	var lines, outputs []string
	for k, text := range linesAndOutputs {
		if k%2 == 0 {
			lines = append(lines, text)
		} else {
			outputs = append(outputs, text)
		}
	}
	got := strings.Split(strings.TrimSuffix(impl.RunScript(strings.Join(lines, "\n")), "\n"), "\n")
	for k, line := range lines {
		if k >= len(got) || got[k] != outputs[k] {
			t.Errorf("the output of the line %q of %q is not %q: the output of the script is %q", line, lines, outputs[k], got)
			return
		}
	}
	if len(got) != len(lines) {
		t.Errorf("RunScript(%q) has %d outputs: %q", lines, len(got), got)
	}
}

// An example is the script of the document with its output.
const (
	exampleScript = `world E O<E;E i;E b;E l(x):E x;E p(x,y):E x&E y;O i;O l(x):O x
find E p(i,l(b))
find O l(b)
asked E l(l(i))
failing O l(b)
stack O l(b)
candidates E l(i)
may E x
check 2(0) E l(i)
check 2(1) E l(i)
form 3(0,2(1))
all 3 E l(i)
level E l(i)
overlaps
coherent
growing
ending
gaps
closed
givens O x
everything
given E l(x)
evidence 2(aE) E l(x)
evidence 2(a) E l(x)
reduce E p(x,l(y))
above O
having O 2
whynot O 2
instance E l(i)
find E l(i)
special E l(i)
all 3 E l(i)
overlaps
ordered
redundant
without 6
match p(x,y) p(i,l(b))
unify p(x,i) p(b,y)
apart x l(x)
instance O m(x)
gaps
close
instance E m(x):E x
gaps
close
closed
foo
`
	exampleOutput = `E O<E;E i;E b;E l(x):E x;E p(x,y):E x&E y;O i;O l(x):O x
3(0,2(1))
none
E l(l(i))&E l(i)&E i
O b
O l(b)
2
0 1 2 3
ok
form
p(i,l(b))
2(0)
1
-
true
-
true
-
true
O x
O x&E x
2(aE)
ok
given
E x&E y
E
i l(i)
2 7 0 0
E O<E;E i;E b;E l(x):E x;E p(x,y):E x&E y;O i;O l(x):O x;E l(i)
many
6
2(0) 6
2-6
true
6
E O<E;E i;E b;E l(x):E x;E p(x,y):E x&E y;O i;O l(x):O x
x=i y=l(b)
x=b y=i
false
E O<E;E i;E b;E l(x):E x;E p(x,y):E x&E y;O i;O l(x):O x;O m(x)
6E
no
E O<E;E i;E b;E l(x):E x;E p(x,y):E x&E y;O i;O l(x):O x;O m(x);E m(x):E x
6E
E O<E;E i;E b;E l(x):E x;E p(x,y):E x&E y;O i;O l(x):O x;O m(x):E x;E m(x):E x
true
what
`
)

func TestExampleOfScripts(t *testing.T) {
	checkScript(t, exampleScript, exampleOutput)
	checkScript(t, strings.TrimSuffix(exampleScript, "\n"), exampleOutput)
	// A script knows nothing of others.
	checkScript(t, "world\ngivens", "E\n-\n")
	checkScript(t, exampleScript, exampleOutput)
}

// deskWorld is that of the example.
const deskWorld = "E O<E;E i;E b;E l(x):E x;E p(x,y):E x&E y;O i;O l(x):O x"

// checkChanging runs one line in a world with givens, and holds its output and both behind it against texts.
func checkChanging(t *testing.T, world, givens, line, output, worldBehind, givensBehind string) {
	t.Helper()
	checkLines(t, "world "+world, world, "givens "+givens, givens, line, output, "world", worldBehind, "givens", givensBehind)
}

// checkTelling runs lines that change nothing, each of which stands before its own output, in a world with givens.
func checkTelling(t *testing.T, world, givens string, linesAndOutputs ...string) {
	t.Helper()
	for k := 0; k < len(linesAndOutputs); k += 2 {
		checkChanging(t, world, givens, linesAndOutputs[k], linesAndOutputs[k+1], world, givens)
	}
}

// checkAllTelling runs lines that have the same output and change nothing.
func checkAllTelling(t *testing.T, world, givens, output string, lines ...string) {
	t.Helper()
	for _, line := range lines {
		checkTelling(t, world, givens, line, output)
	}
}

func TestFirstWorldOfScripts(t *testing.T) {
	for line, output := range map[string]string{
		"world": "E", "givens": "-", "everything": "-", "least": "-", "close": "E", "overlaps": "-", "growing": "-", "redundant": "-", "gaps": "-", "coherent": "true", "ordered": "true", "ending": "true", "closed": "true",
		"find E i": "none", "special E i": "none", "given E i": "none", "asked E i": "E i", "failing E i": "E i", "stack E i": "-", "candidates E i": "-", "may E x": "-", "level E i": "no", "all 6 E i": "-", "check 0 E i": "instance", "evidence 0 E i": "instance",
		"form 0": "no", "reduce E x": "E x", "above E": "-", "above O": "no", "having E 4": "-", "whynot E 2": "0 9 0 0", "instance E i": "E;E i", "instance O i": "no", "without 0": "no", "givens E x": "E x", "givens O x": "no", "find O i": "wrong",
	} {
		checkLines(t, line, output)
	}
}

func TestLinesThatTell(t *testing.T) {
	checkTelling(t, deskWorld, "O x&E l(y)",
		"world", deskWorld, "givens", "O x&E l(y)", "everything", "O x&E x&E l(y)",
		"find E p(i,l(b))", "3(0,2(1))", "find O i", "4", "find O l(b)", "none", "find E x", "none",
		"special E p(i,l(b))", "3(0,2(1))", "special O l(l(i))", "5(5(4))", "special O b", "none",
		"given E l(x)", "2(aE)", "given O l(x)", "5(a)", "given E l(y)", "b", "given E p(l(y),i)", "3(b,0)", "given E y", "none", "given O l(y)", "none", "given E p(i,l(b))", "3(0,2(1))",
		"asked E l(l(i))", "E l(l(i))&E l(i)&E i", "asked O p(i,i)", "O p(i,i)", "asked O l(b)", "O l(b)&O b", "asked E p(x,i)", "E p(x,i)&E x",
		"failing O l(b)", "O b", "failing O b", "O b", "failing E p(i,p(u,i))", "E u", "failing E i", "no", "failing E l(i)", "no",
		"stack O l(b)", "O l(b)", "stack O b", "-", "stack E p(i,p(u,i))", "E p(i,p(u,i))&E p(u,i)", "stack E i", "no", "stack E l(i)", "no",
		"candidates E l(i)", "2", "candidates E x", "-", "candidates O m(i)", "-", "candidates E p(x,x)", "3", "may E x", "0 1 2 3", "may O x", "4 5", "may E m(x)", "-", "may O l(y)", "5",
		"level E i", "0", "level E l(i)", "1", "level E p(i,l(b))", "2", "level O b", "no", "level E x", "no",
		"all 0 E i", "0", "all 3 E l(i)", "2(0)", "all 0 E l(i)", "-", "all 6 O b", "-", "all 1 E p(i,l(b))", "-", "all 2 E p(i,l(b))", "3(0,2(1))",
		"check 2(0) E l(i)", "ok", "check 0 E i", "ok", "check 2(1) E l(i)", "form", "check 6 E i", "instance", "check 4 E i", "class", "check 2 E l(i)", "parts", "check 3(0) E p(i,i)", "parts",
		"evidence 2(aE) E l(x)", "ok", "evidence a O x", "ok", "evidence aE E x", "ok", "evidence b E l(y)", "ok", "evidence 0 E i", "ok", "evidence 2(a) E l(x)", "given", "evidence c E l(y)", "given", "evidence 2 E l(x)", "parts", "evidence bb E l(y)", "rest", "evidence 4 E i", "instance",
		"form 3(0,2(1))", "p(i,l(b))", "form 0", "i", "form 5(4)", "l(i)", "form 2(4)", "no", "form 6", "no", "form 2", "no",
		"reduce E p(x,l(y))", "E x&E y", "reduce E x", "E x", "reduce O l(l(Z))", "O Z", "reduce E p(i,l(b))", "-", "reduce E p(y,y)", "E y", "reduce O b", "no", "reduce E m(x)", "no",
		"above O", "E", "above E", "-", "above S", "no", "overlaps", "-", "growing", "-", "redundant", "-", "coherent", "true", "ordered", "true", "ending", "true", "closed", "true", "gaps", "-",
		"having O 2", "i l(i)", "having O 1", "i", "having E 2", "i b l(i) l(b)", "whynot O 2", "2 7 0 0", "whynot E 1", "2 1 0 0", "whynot E 4", "24 84 0 0",
		"match p(x,y) p(i,l(b))", "x=i y=l(b)", "match x y", "x=y", "match i i", "-", "match i b", "no", "match p(x,x) p(i,b)", "no", "unify p(x,i) p(b,y)", "x=b y=i", "unify X x", "X=x", "unify l(x) l(x)", "-", "unify x l(x)", "no", "unify i u", "no",
		"apart x l(x)", "false", "apart i b", "true", "apart l(x) m(x)", "true", "apart p(x,x) p(i,b)", "true", "apart i i", "false")
	// Forms that have variables, and patterns with several.
	checkTelling(t, "E;E p(x,y):E l(x);E l(x)", "-", "form 1", "l(x)", "form 0(1)", "p(x,y)", "match p(z,p(X,x)) p(i,p(b,u))", "X=b x=u z=i", "unify p(x,p(y,z)) p(l(y),p(l(z),i))", "x=l(l(i)) y=l(i) z=i")
}

func TestLinesInWorldsThatAreNotOrdered(t *testing.T) {
	// Overlaps, of which one is not ordered, needs that grow, redundant instances and gaps.
	world := "E O<E S<EO;E i;E l(x):E x;E l(i);E p(x,i);E p(i,x);O m(x):O m(x);O b;S u"
	checkTelling(t, world, "S x&E l(i)",
		"overlaps", "1-2 3-4", "growing", "5", "redundant", "2", "coherent", "false", "ordered", "false", "ending", "false", "closed", "false", "gaps", "6E 7E 7O", "above S", "EO", "everything", "S x&E x&O x&E l(i)",
		"find E l(i)", "many", "special E l(i)", "2", "given E l(i)", "b", "given E l(l(i))", "1(b)", "find E p(i,i)", "many", "special E p(i,i)", "many", "special E p(b,i)", "3",
		"find O m(i)", "deep", "special O m(i)", "deep", "given O m(i)", "deep", "given O m(x)", "deep",
		"candidates E l(i)", "1 2", "may E l(x)", "1 2", "may E p(x,y)", "3 4", "all 6 E l(i)", "1(0) 2", "all 1 E p(i,i)", "3 4", "all 6 O m(b)", "-", "level E l(i)", "0", "failing E l(l(i))", "E l(i)", "stack E l(l(i))", "E l(l(i))",
		"having E 2", "i", "whynot E 2", "1 7 1 0", "whynot O 2", "1 5 0 3", "check 2 E l(i)", "ok", "check 1(0) E l(i)", "ok", "evidence 2 E l(i)", "ok", "evidence aEO E x", "rest", "evidence aO O x", "ok", "evidence bE E l(i)", "given")
	checkTelling(t, "E;E i;E l(x):E x;E l(i);E l(l(x)):E x;E l(y):E i", "-", "overlaps", "1-2 1-3 1-4 2-4 3-4", "ordered", "true", "coherent", "false", "growing", "-", "redundant", "2")
	// The last one of ten instances.
	checkTelling(t, "E;E i;E b;E u;E l(i);E l(b);E l(u);E m(i);E m(b);E m(x);E m(i)", "-", "overlaps", "6-8 6-9 7-8 8-9", "redundant", "6 7 9", "candidates E m(i)", "6 8 9", "special E m(i)", "6", "find E m(u)", "8", "check 9 E m(i)", "ok", "form 9", "m(i)", "all 0 E m(i)", "6 8 9", "without 10", "no")
}

// reasonWorld has types for each reason why a need of E is not met: u for none, b for many, those of l for deep, those
// of m for big and those of p for long.
const reasonWorld = "E O;E i;E b;E b:E i;E l(x):E l(x);E m(x):E m(p(x,x));E p(x,y):O l(l(l(l(l(i)))));O l(x):O x&O x&O x;O i;E l(l(u))"

func TestReasonsInPlaceOfTexts(t *testing.T) {
	for _, word := range []string{"find", "special", "given"} {
		checkTelling(t, reasonWorld, "E p(x,x)&O b", word+" E i", "0", word+" E u", "none", word+" E l(i)", "deep", word+" E m(i)", "big", word+" E p(i,i)", "long", word+" E S", "wrong", word+" S i", "wrong", word+" A x", "wrong", word+" E l(l(l(i)))", "deep", word+" O l(u)", "none")
	}
	checkTelling(t, reasonWorld, "E p(x,x)&O b", "find E b", "many", "special E b", "1", "given E b", "many", "find E l(l(u))", "many", "special E l(l(u))", "8", "find E p(x,x)", "long", "special E p(x,x)", "long", "given E p(x,x)", "a",
		"find O l(b)", "none", "special O l(b)", "none", "given O l(b)", "6(b,b,b)",
		"failing E m(i)", "E m("+twice(twice(twice("i")))+")", "stack E m(i)", "E m(i)&E m("+twice("i")+")&E m("+twice(twice("i"))+")", "failing E l(i)", "E l(i)", "stack E l(i)", repeated("E l(i)", 31), "asked E l(i)", repeated("E l(i)", 32),
		"level E b", "0", "level E l(i)", "no", "all 1 E b", "1 2(0)", "reduce E b", "no", "reduce E l(x)", "no", "whynot E 1", "1 1 1 0", "whynot E 2", "1 1 1 6", "whynot E 3", "1 1 2 26")
	// A search that fails with long has asked for 300 needs, and fails at the next one.
	w, n := worldOf(reasonWorld), needOf("E p(i,i)")
	asked, _ := impl.AskedFor(w, n)
	failing, _ := impl.FailingNeed(w, n)
	checkTelling(t, reasonWorld, "-", "asked E p(i,i)", needsText(asked, true), "failing E p(i,i)", impl.FormatNeed(failing), "stack E p(i,i)", needsText(impl.StackOf(w, n)))
	if len(asked) != impl.MaxAsked {
		t.Errorf("the search of this test asks for %d needs", len(asked))
	}
}

func TestAnswersOfChecks(t *testing.T) {
	long := "l(" + long26 + ")"
	world := "E O;E l(x):E p(x,p(x,i));E b;E p(x,y);O l(x):E b&E p(x,x);O i"
	checkTelling(t, world, "E x&O b",
		"check 3(1,2) O l(b)", "ok", "check 7 O i", "instance", "check 9(1) O i", "instance", "check 1 O i", "class", "check 3(1,2) O i", "form", "check 0(2) E "+long, "big", "check 3(1) O l(b)", "parts", "check 3 O l(b)", "parts", "check 3(1,2,1) O l(b)", "parts", "check 3(2,2) O l(b)", "form", "check 3(1,4) O l(b)", "class",
		"check x O i", "wrong", "check 3( O l(b)", "wrong", "check 10 O i", "wrong", "check - O i", "wrong", "check 1 S b", "wrong", "check 4 A i", "wrong", "check x S q", "no", "check 3(1,2)) O l(b)", "wrong", "check 3(1,2\t) O l(b)", "wrong",
		"evidence 3(1,2) O l(b)", "ok", "evidence a E x", "ok", "evidence b O b", "ok", "evidence c E x", "given", "evidence b E b", "given", "evidence aO E x", "given", "evidence 4 E b", "instance", "evidence x E b", "instance", "evidence - E b", "instance", "evidence 0(2) E "+long, "big", "evidence 3 O l(b)", "parts", "evidence 3(1) O l(b)", "parts", "evidence 3(1,2,1) O l(b)", "parts", "evidence 4x O i", "rest", "evidence 4( O i", "rest",
		"evidence a S x", "wrong", "evidence x A i", "wrong", "evidence a S q", "no")
}

func TestLinesThatChangeTheWorld(t *testing.T) {
	for _, givens := range []string{"-", "E x", "E y&E y&E i"} {
		checkChanging(t, "E;E i;E l(x):E x", givens, "world E O<E S<EO;S p(X,y):O y&E X", "E O<E S<EO;S p(X,y):O y&E X", "E O<E S<EO;S p(X,y):O y&E X", "-")
		checkChanging(t, "E;E i;E l(x):E x", givens, "world A", "A", "A", "-")
		checkChanging(t, "E;E i;E l(x):E x", givens, "instance E m(x):E x&E l(x)", "E;E i;E l(x):E x;E m(x):E x&E l(x)", "E;E i;E l(x):E x;E m(x):E x&E l(x)", "-")
		checkChanging(t, "E;E i;E l(x):E x", givens, "instance E i", "E;E i;E l(x):E x;E i", "E;E i;E l(x):E x;E i", "-")
		checkChanging(t, "E;E i;E l(x):E x", givens, "without 0", "E;E l(x):E x", "E;E l(x):E x", "-")
		checkChanging(t, "E;E i;E l(x):E x", givens, "without 1", "E;E i", "E;E i", "-")
		checkChanging(t, "E O<E;E i;E l(x):E x;O l(x);O i", givens, "close", "E O<E;E i;E l(x):E x;O l(x):E x;O i", "E O<E;E i;E l(x):E x;O l(x):E x;O i", "-")
		// Also if the world stays the same.
		checkChanging(t, "E;E i;E l(x):E x", givens, "world E;E i;E l(x):E x", "E;E i;E l(x):E x", "E;E i;E l(x):E x", "-")
		checkChanging(t, "E;E i;E l(x):E x", givens, "close", "E;E i;E l(x):E x", "E;E i;E l(x):E x", "-")
	}
	// Those in front of and behind the one that is taken out stay in order.
	ten := "E;E i;E b;E u;E l(i);E l(b);E l(u);E m(i);E m(b);E m(u);E p(x,y)"
	checkChanging(t, ten, "E x", "without 9", strings.TrimSuffix(ten, ";E p(x,y)"), strings.TrimSuffix(ten, ";E p(x,y)"), "-")
	checkChanging(t, ten, "E x", "without 4", strings.Replace(ten, ";E l(b)", "", 1), strings.Replace(ten, ";E l(b)", "", 1), "-")
	// The lines behind see the world that is changed.
	checkLines(t, "instance E l(x):E x", "E;E l(x):E x", "find E l(i)", "none", "instance E i", "E;E l(x):E x;E i", "find E l(i)", "0(1)", "without 0", "E;E i", "find E l(i)", "none", "find E i", "0", "world O;O i", "O;O i", "find E i", "wrong", "find O i", "0", "without 0", "O", "without 0", "no", "world", "O")
}

func TestWorldsThatStayAsTheyAre(t *testing.T) {
	world, givens := "E O<E;E i;E l(x):E x;O i", "E x&O l(y)"
	lines := []string{"instance ", "instance x", "instance E", "instance E ", "instance i", "instance E x", "instance E i ", "instance  E i", "instance E  i", "instance E i:", "instance S i", "instance E l(x):E y", "instance E l(x):S x", "instance E i:E i&E i&E i&E i", "instance E " + head21, "instance E i;E i", "instance -", "instance 0",
		"without ", "without 3", "without 10", "without -1", "without x", "without 0 1", "without 0 ", "without  0", "without E i", "without 0x0", "without 1.0"}
	for _, s := range textsThatAreNoWorlds() {
		if !strings.Contains(s, "\n") && len(s) < 1000 {
			lines = append(lines, "world "+s)
		}
	}
	for _, s := range []string{"E O<E;E i;E l(x):E x;O i ", " E", "x", "E;O i", "E;E x", "U", "e", "E i", "A B C D E", "E" + strings.Repeat(";E i", 11), "E;E i:E i&E i&E i&E i"} {
		lines = append(lines, "world "+s)
	}
	checkAllTelling(t, world, givens, "no", lines...)
	checkChanging(t, "E"+strings.Repeat(";E i", 10), "E x", "instance E b", "no", "E"+strings.Repeat(";E i", 10), "E x")
	// Worlds that nothing closes: one in which a gap comes down to no needs, and one with too many of them.
	for _, s := range []string{deskWorld + ";O m(x)", "E O<E;O i", "E O<E;E l(x):E p(x,x);E p(x,y):E m(x)&E m(y);O l(x)"} {
		checkTelling(t, s, "O x", "close", "no")
	}
}

func TestLinesThatChangeGivens(t *testing.T) {
	six := "E x&E y&E z&O X&O Y&O Z"
	world := "E O<E;E i;E l(x):E x;O i"
	for _, before := range []string{"-", "E x", six} {
		for _, list := range []string{"-", "E x", "O x&E x", "E x&E x&E x", "E i&O l(l(b))", six, "E " + long28} {
			checkChanging(t, world, before, "givens "+list, list, world, list)
		}
		checkAllTelling(t, world, before, "no", "givens ", "givens  ", "givens x", "givens E", "givens E ", "givens E x ", "givens  E x", "givens E  x", "givens E x&", "givens &E x", "givens E x&&E y", "givens E x& E y", "givens E x E y", "givens E x,E y", "givens --", "givens - ", "givens -&E x",
			"givens S x", "givens E x&S x", "givens E q", "givens E l(", "givens e x", "givens "+six+"&E i", "givens "+repeated("E i", 7), "givens E l("+long28+"l)", "givens E x:E y", "givens E x;E y")
	}
	// What is known of some depends on the givens alone that were there last.
	checkLines(t, "world "+world, world, "given E x", "none", "givens O x", "O x", "given E x", "aE", "givens E x&O x", "E x&O x", "given E x", "a", "given E q", "wrong", "givens S x", "no", "given E x", "a", "evidence bE E x", "ok", "givens -", "-", "given E x", "none", "evidence bE E x", "given", "everything", "-", "find E x", "none")
	// Least givens are left.
	checkChanging(t, world, "E x&O x&E l(x)&E y", "least", "O x&E y", world, "O x&E y")
	checkChanging(t, world, "E i&E l(i)", "least", "-", world, "-")
	checkChanging(t, world, "E x&E x", "least", "E x", world, "E x")
	checkChanging(t, world, "O y&E x", "least", "O y&E x", world, "O y&E x")
	checkChanging(t, world, "-", "least", "-", world, "-")
	checkLines(t, "world "+world, world, "givens E l(x)&E x", "E l(x)&E x", "given E l(x)", "a", "least", "E x", "given E l(x)", "1(a)", "least", "E x", "givens", "E x", "everything", "E x")
}

// TestGivensWhenTheWorldChanges has lines that change the world, and lines that fail to, one behind the other.
func TestGivensWhenTheWorldChanges(t *testing.T) {
	checkLines(t, "givens E x", "E x", "instance E i", "E;E i", "givens", "-", "given E x", "none", "givens E x&E y", "E x&E y", "instance O i", "no", "givens", "E x&E y", "given E y", "b", "without 1", "no", "without 0", "E", "givens", "-",
		"givens E z", "E z", "world E O<E;O", "no", "find E z", "none", "given E z", "a", "world E O<E", "E O<E", "everything", "-", "givens O z", "O z", "close", "E O<E", "givens", "-", "instance O i", "E O<E;O i", "givens O i&E b", "O i&E b", "close", "no", "givens", "O i&E b", "given E i", "aE",
		"least", "E b", "instance E i", "E O<E;O i;E i", "givens O i&E b", "O i&E b", "least", "E b", "foo", "what", "world ", "no", "close ", "what", "givens", "E b",
		"close", "E O<E;O i;E i", "everything", "-")
}

func wordsThatNeedARest() []string {
	return strings.Fields("instance without find special given asked failing stack candidates may level all check evidence form reduce above having whynot match unify apart")
}

func wordsThatNeedNone() []string {
	return strings.Fields("close least everything overlaps growing redundant coherent ordered ending closed gaps")
}

func TestLinesThatAreUnknown(t *testing.T) {
	world, givens := deskWorld, "O x"
	checkAllTelling(t, world, givens, "what", wordsThatNeedARest()...)
	for _, word := range wordsThatNeedNone() {
		checkAllTelling(t, world, givens, "what", word+" ", word+"  ", word+" 1", word+" E i", word+" "+word, word+"1", word+"\t", word+"\r")
	}
	checkAllTelling(t, world, givens, "what", "worl E", "given", "iven E i", "ivens E i")
	for _, word := range append(append(wordsThatNeedARest(), wordsThatNeedNone()...), "world") {
		checkAllTelling(t, world, givens, "what", " "+word, "  "+word, " "+word+" E i", strings.ToUpper(word), strings.ToUpper(word)+" E i", strings.ToUpper(word[:1])+word[1:]+" O x", word+word, word[1:], word[:len(word)-1]+" E i", word+"\tE i", word+":", word+"\r", "\x00"+word, word+"\xff", word+"\x00 E i")
	}
	checkAllTelling(t, world, givens, "what", " ", "  ", "x", "foo", "foo E i", "-", "no", "what", "full", "long", "wrong", "E", "E i", deskWorld, "0", "find,E i", "\t", "\r", "\x00", "\xff", "\u00e9", "\u00a0", "worlds", "given", "dicts E i", "has E i", "unique 3 E i", "least E i", "world\u00a0E", "fi nd E i", "find\vE i")
}

func TestRestsThatAreEmpty(t *testing.T) {
	for _, word := range append(wordsThatNeedARest(), "world", "givens") {
		output := "no"
		if word == "find" || word == "special" || word == "given" {
			output = "wrong"
		}
		checkAllTelling(t, deskWorld, "O x", output, word+" ", word+"  ", word+"   ", word+" \t", word+" \x00", word+" \r")
	}
}

// textsThatAreNoNeeds has no text with a newline.
func textsThatAreNoNeeds() []string {
	return []string{"", " ", "x", "i", "E", "E ", " E i", "E  i", "E i ", "E i x", "Ei", "EO i", "E q", "E l", "E l(", "E l()", "E l(i", "E l(i))", "E p(i)", "E p(i,b", "E p(i, b)", "e i", "U i", "Z x", "E -", "-", "E i&E b", "E i:E b", "E i;", "E\ti", "E i\r", "E i\x00", "\xff i", "E \xff", "E l(" + long28 + "l)", "E 0", "0", "wrong"}
}

func TestRestsThatAreNoNeeds(t *testing.T) {
	for _, s := range textsThatAreNoNeeds() {
		checkAllTelling(t, deskWorld, "O x", "wrong", "find "+s, "special "+s, "given "+s)
		checkAllTelling(t, deskWorld, "O x", "no", "asked "+s, "failing "+s, "stack "+s, "candidates "+s, "may "+s, "level "+s, "reduce "+s, "all 3 "+s, "check 0 "+s, "evidence 0 "+s)
	}
	// Needs of classes that the world does not have are needs.
	for _, s := range []string{"S i", "A x", "T l(l(b))"} {
		checkAllTelling(t, deskWorld, "O x", "wrong", "find "+s, "special "+s, "given "+s, "check 0 "+s, "evidence 0 "+s)
		checkAllTelling(t, deskWorld, "O x", "no", "asked "+s, "failing "+s, "stack "+s, "candidates "+s, "may "+s, "level "+s, "reduce "+s, "all 3 "+s)
	}
}

func TestRestsWithTwoParts(t *testing.T) {
	// One part alone, further spaces, and parts that are empty.
	checkAllTelling(t, deskWorld, "O x", "no",
		"all 3", "all 3 ", "all  3 E i", "all 3  E i", "all 3 E i ", "all  E i", "all E i", "all E i 3", "all 3 E", "all 3 E  i", "all 3,E i", "all i E i", "all x E i", "all 3 3",
		"check 0", "check 0 ", "check 0 0", "check 0  E i", "check 0 E i ", "check 0 E", "check E i", "check E i 0", "check  0 E i", "check 0 E  i",
		"evidence 0", "evidence 0 ", "evidence a a", "evidence 0  E i", "evidence 0 E i ", "evidence 0 E", "evidence E i", "evidence E i 0", "evidence  0 E i",
		"having E", "having E ", "having  2", "having E  2", "having E 2 ", "having 2 E", "having 2", "having E2", "having S 2", "having EO 2", "having E O 2", "having E 2 2", "having e 2", "having x 2", "having E x", "having E i",
		"whynot E", "whynot E ", "whynot  2", "whynot E  2", "whynot E 2 ", "whynot 2 E", "whynot 2", "whynot E2", "whynot S 2", "whynot EO 2", "whynot E O 2", "whynot E 2 2", "whynot E x",
		"match x", "match x ", "match  x", "match  x i", "match x  i", "match x i ", "match x,i", "match i x", "match q i", "match x q", "match x i b", "match E x", "match x E", "match l(x) l", "match - -",
		"unify x", "unify x ", "unify  x", "unify  x i", "unify x  i", "unify x i ", "unify q i", "unify x q", "unify x i b", "unify l(x) l(y)) ", "unify - -",
		"apart x", "apart x ", "apart  x", "apart  x i", "apart i  b", "apart i b ", "apart i q", "apart q i", "apart q q", "apart i", "apart i b u", "apart - -", "apart l( b", "apart i "+long28+"l", "apart l("+long28+"l) i")
	// The first part of these may be any text, the empty one too.
	checkTelling(t, deskWorld, "O x", "check  E i", "wrong", "evidence  E i", "instance", "check \t E i", "wrong", "evidence \t E i", "instance", "check \xff\x00 E i", "wrong", "check E O i", "wrong", "evidence aE E x", "ok", "check 0,0 E i", "wrong")
	// Classes, dictionaries and types that are the whole rest.
	checkAllTelling(t, deskWorld, "O x", "no", "above ", "above S", "above EO", "above E O", "above O ", "above  O", "above e", "above 0", "above -", "form x", "form 0 ", "form  0", "form 0 0", "form 2(0", "form 2(0))", "form -", "form 10", "form E i", "form 2(0,0)", "form i")
	// Types up to the limit.
	checkTelling(t, "E", "-", "apart "+long28+" "+twice(long28), "true", "match x "+twice(long28), "x="+twice(long28), "match x "+twice(long28)+"i", "no", "unify "+twice(long28)+" y", "y="+twice(long28))
}

// textsThatAreNoNumbers has texts that some readers take as the numbers 0 to 3.
func textsThatAreNoNumbers() []string {
	return []string{"", "x", "E", "-", "+", "+1", "+0", "-0", "00", "01", "02", "000", "001", "0x1", "0b1", "0o1", "1x", "x1", "1_0", "1_", "_1", "1.0", "1.", ".1", "1e0", "--1", "-+1", "1-", "1,0", "(1)", "\t1", "1\t", "1\r", "\u0661", "\uff11", "\u00b9", "\x001", "1\x00", "1\xff",
		"0000000000000001", "00000000000000001", "000000000000000001", "0000000000000000000000001", "-01", "-00", "-1x"}
}

// numbersThatAreOut has numbers that are those of no instance, depth or size; some of them are like others in their last bits.
func numbersThatAreOut() []string {
	return []string{"-1", "-2", "-10", "10", "11", "100", "256", "257", "65536", "4294967296", "4294967297", "4294967298", "-4294967295", "99999999999999999", "-99999999999999999", "10000000000000000", "100000000000000000", "999999999999999999", "-100000000000000000", "9223372036854775807", "9223372036854775808", "-9223372036854775808", "-9223372036854775809",
		"18446744073709551616", "18446744073709551617", "18446744073709551618", "-18446744073709551615", "340282366920938463463374607431768211457", strings.Repeat("9", 1000)}
}

func TestNumbersInLines(t *testing.T) {
	world, givens := "E O<E;E i;E l(x):E x;E b;O i", "O x"
	for _, k := range append(textsThatAreNoNumbers(), numbersThatAreOut()...) {
		checkAllTelling(t, world, givens, "no", "without "+k, "all "+k+" E i", "having E "+k, "whynot E "+k)
	}
	sizes := map[int][2]string{1: {"i b", "2 1 0 0"}, 2: {"i b l(i) l(b)", "4 5 0 0"}, 3: {"i b l(i) l(b) l(l(i)) l(l(b))", "6 24 0 0"}, 4: {"i b l(i) l(b) l(l(i)) l(l(b)) l(l(l(i))) l(l(l(b)))", "8 100 0 0"}}
	for k := range 12 {
		s := strconv.Itoa(k)
		checkTelling(t, world, givens, "having E "+s, cmp.Or(sizes[k][0], "no"), "whynot E "+s, cmp.Or(sizes[k][1], "no"))
		if k <= impl.MaxLevels {
			checkTelling(t, world, givens, "all "+s+" E i", "0")
		} else {
			checkTelling(t, world, givens, "all "+s+" E i", "no")
		}
		if k >= 4 {
			checkTelling(t, world, givens, "without "+s, "no")
		}
	}
}

func TestEndsOfLines(t *testing.T) {
	for script, output := range map[string]string{
		"": "", "\n": "", "\n\n\n": "", "world": "E\n", "world\n": "E\n", "\nworld": "E\n", "\n\nworld\n\n": "E\n", "world\nworld": "E\nE\n", "world\n\n\nworld\n": "E\nE\n", "world\nfoo": "E\nwhat\n", " ": "what\n", " \n": "what\n", " \n ": "what\nwhat\n", "world\r\nworld\r\n": "what\nwhat\n", "world\rworld": "what\n", "\r\n": "what\n",
		"instance E i\n\ninstance E b\n\n\nworld": "E;E i\nE;E i;E b\nE;E i;E b\n", "find \nfind E i": "wrong\nnone\n", "find E i\n ": "none\nwhat\n", "world E\x00": "no\n", "world;world": "what\n", "world world": "no\n", "givens -\ngivens": "-\n-\n", "\x00": "what\n", "x\n\x00\ny": "what\nwhat\nwhat\n", "\u2028": "what\n", "world\v\nworld\f\nworld\u0085": "what\nwhat\nwhat\n",
	} {
		checkScript(t, script, output)
	}
}

func TestLongestScripts(t *testing.T) {
	for _, c := range []struct{ first, filler, output string }{
		{"", "\n", ""}, {"", "x", "what\n"}, {"world\n", "\n", "E\n"}, {"find ", "E", "wrong\n"}, {"world ", "E", "no\n"}, {"world ", ";", "no\n"}, {"instance ", "&", "no\n"}, {"givens ", "-", "no\n"},
		{"form ", "(", "no\n"}, {"match ", " ", "no\n"}, {"check ", "0", "no\n"}, {"without ", "1", "no\n"}, {"without ", "0", "no\n"}, {"all 3 E ", "l(", "no\n"}, {"above ", "E", "no\n"}, {" ", " ", "what\n"}, {"foo\nworld\n", "\x00", "what\nE\nwhat\n"}, {"coherent\n", "\xff", "true\nwhat\n"},
	} {
		filler := strings.Repeat(c.filler, impl.MaxScript)
		longest := (c.first + filler)[:impl.MaxScript]
		checkScript(t, longest, c.output)
		checkScript(t, longest[:impl.MaxScript-1], c.output)
		checkScript(t, longest+"\n", "long\n")
		checkScript(t, longest+"x", "long\n")
		checkScript(t, "\n"+longest, "long\n")
		checkScript(t, longest+filler, "long\n")
	}
	// The evidence may be as long as a line.
	evidence := strings.Repeat("1(", 9000)
	checkScript(t, "world E;E i;E l(x):E l(x)\nevidence "+evidence+" E l(i)", "E;E i;E l(x):E l(x)\ninstance\n")
	// Runes do not count.
	checkScript(t, strings.Repeat("\u00e9", 10000), "what\n")
	checkScript(t, strings.Repeat("\u00e9", 10000)+"x", "long\n")
	// Such a script is not executed, also if it would be full.
	checkScript(t, strings.Repeat("x\n", 200)+strings.Repeat("\n", 20000), "long\n")
}

func TestMostLines(t *testing.T) {
	lines, whats := strings.Repeat("x\n", 99), strings.Repeat("what\n", 99)
	for script, output := range map[string]string{
		lines: whats, lines + "x": whats + "what\n", lines + "x\n": whats + "what\n", lines + "x\nx": whats + "what\nfull\n", lines + "x\nx\n": whats + "what\nfull\n", lines + "x\nx\nx\nx\n": whats + "what\nfull\n", lines + lines: whats + "what\nfull\n",
		// Empty lines count, but are not executed.
		lines + "\nx": whats + "full\n", lines + "\n\n\n\nx\nx": whats + "full\n", lines + "x\n\n\n\n": whats + "what\n", lines + "x\n\n\n\nx": whats + "what\nfull\n", "\n" + lines: whats, "\n" + lines + "x": whats + "full\n", "\n\n" + lines: whats[5:] + "full\n", lines + "\n\n\n\n\n": whats, lines + "\nworld\n": whats + "full\n",
		strings.Repeat("\n", 98) + "world\nworld\nworld": "E\nE\nfull\n", strings.Repeat("\n", 99) + "world": "E\n", strings.Repeat("\n", 99) + "world\n": "E\n", strings.Repeat("\n", 99) + "world\nworld": "E\nfull\n", strings.Repeat("\n", 100) + "world": "full\n",
		strings.Repeat("\n", 101) + "world": "full\n", strings.Repeat("\n", 15000) + "world\nworld": "full\n", strings.Repeat("\n", 15000): "",
		strings.Repeat("x\n\n", 50): strings.Repeat("what\n", 50), strings.Repeat("\nx\n", 50): strings.Repeat("what\n", 50), strings.Repeat("x\n\n", 51): strings.Repeat("what\n", 50) + "full\n", strings.Repeat("\nx\n", 51): strings.Repeat("what\n", 50) + "full\n", strings.Repeat("\n\n\nx\n", 26): strings.Repeat("what\n", 25) + "full\n",
	} {
		checkScript(t, script, output)
	}
	// All kinds of lines count, those that are wrong too.
	for line, output := range map[string]string{"find x": "wrong", "world ": "no", "least": "-", "world E;E i": "E;E i", "givens E x": "E x", " ": "what"} {
		checkScript(t, strings.Repeat(line+"\n", 101), strings.Repeat(output+"\n", 100)+"full\n")
		checkScript(t, strings.Repeat(line+"\n", 100), strings.Repeat(output+"\n", 100))
	}
}

// bigWorld returns the text of a world that is as long as worlds can be.
func bigWorld() string {
	return "A B<A C<AB D<ABC" + strings.Repeat(";D "+head20+":A "+head20+"&B "+head20+"&C "+head20, 10)
}

// filling returns a script whose output has a length, and this output.
func filling(length int) (string, string) {
	world := bigWorld() + "\n"
	script, output := "world "+world, world
	for len(output)+len(world) <= length-8 {
		script, output = script+"world\n", output+world
	}
	match := "x=" + long28 + "\n"
	for len(output)+len(match) <= length-8 {
		script, output = script+"match x "+long28+"\n", output+match
	}
	// Each rest of at least 8 bytes is a sum of those of these outputs.
	for (length-len(output))%5 != 0 {
		script, output = script+"form x\n", output+"no\n"
	}
	for len(output) < length {
		script, output = script+"x\n", output+"what\n"
	}
	return script, output
}

func TestLongestOutputs(t *testing.T) {
	for length := impl.MaxOutput - 3; length <= impl.MaxOutput+3; length++ {
		script, output := filling(length)
		if len(output) != length || strings.Count(script, "\n") > 90 {
			t.Fatalf("the output of this test has %d bytes, not %d, and %d lines", len(output), length, strings.Count(script, "\n"))
		}
		checkScript(t, script, output)
		checkScript(t, script+"\n\n\n", output)
		if length > impl.MaxOutput {
			for _, more := range []string{"x", "x\n", "\n\nx", "world\nworld", " ", "find x", "world A\nworld"} {
				checkScript(t, script+more, output+"full\n")
			}
			continue
		}
		checkScript(t, script+"x", output+"what\n")
		checkScript(t, script+"world", output+bigWorld()+"\n")
		checkScript(t, script+"world\nworld", output+bigWorld()+"\nfull\n")
		checkScript(t, script+"\nworld\n\n\n", output+bigWorld()+"\n")
		checkScript(t, script+"x\n\nx\nx", output+"what\n"+map[bool]string{true: "full\n", false: "what\nfull\n"}[length+5 > impl.MaxOutput])
	}
}

// TestOutputsOfOneLine has a line with an output that is longer than the limit by itself.
func TestOutputsOfOneLine(t *testing.T) {
	w := validWorld(t, "E O;E i;E l(x):E x&E x&E x;E p(x,y):E x&O y;O i;O i;O i;O l(x):O x&O x&O x;O l(x):O x&O x&O x")
	n := validNeed(t, w, "E p("+nested(5)+",l(i))")
	all := textsText(impl.AllDicts(w, n, 6))
	if len(all) <= impl.MaxOutput || strings.Count(all, " ") != 53 {
		t.Fatalf("the dictionaries of this test have %d bytes", len(all))
	}
	line := "all 6 " + impl.FormatNeed(n)
	checkLines(t, "world "+impl.FormatWorld(w), impl.FormatWorld(w), line, all)
	checkLines(t, "world "+impl.FormatWorld(w), impl.FormatWorld(w), line, all, line, "full")
	script, output := filling(impl.MaxOutput - len(impl.FormatWorld(w)) - 1)
	script, output = script+"world "+impl.FormatWorld(w)+"\n", output+impl.FormatWorld(w)+"\n"
	checkScript(t, script+line, output+all+"\n")
	checkScript(t, script+line+"\n\n"+line, output+all+"\nfull\n")
	checkScript(t, script+"x\n"+line, output+"what\nfull\n")
}

// A deskModel executes lines one after the other by a switch, with shapes of lines in place of readers.
type deskModel struct {
	world  impl.World
	givens []impl.Need
}

var (
	numberShape = regexp.MustCompile(`^(0|-?[1-9][0-9]{0,16})$`)
	lineShape   = regexp.MustCompile(`^([^ ]*) (([^ ]*) ?((?s:.*)))$`)
)

// numberByShape returns a number that is out of everything for a text that is none.
func numberByShape(s string) int {
	if !numberShape.MatchString(s) {
		return -1
	}
	k, _ := strconv.Atoi(s)
	return k
}

func orNo(text string) string { return cmp.Or(text, "no") }

func failingText(n impl.Need, ok bool) string {
	if !ok {
		return "no"
	}
	return impl.FormatNeed(n)
}

func levelText(level int) string {
	if level < 0 {
		return "no"
	}
	return strconv.Itoa(level)
}

func bindingsText(list []impl.Binding, ok bool) string {
	return listText(list, ok, " ", func(b impl.Binding) string { return b.Var + "=" + b.Type })
}

// changeWorld takes a world and whether there is one.
func (m *deskModel) changeWorld(w impl.World, ok bool) string {
	if !ok {
		return "no"
	}
	m.world, m.givens = w, nil
	return impl.FormatWorld(w)
}

func (m *deskModel) changeGivens(list []impl.Need, ok bool) string {
	if !ok {
		return "no"
	}
	m.givens = list
	return needsText(list, true)
}

func (m *deskModel) bare(line string) string {
	switch line {
	case "world":
		return impl.FormatWorld(m.world)
	case "givens":
		return needsText(m.givens, true)
	case "close":
		return m.changeWorld(impl.CloseWorld(m.world))
	case "least":
		return m.changeGivens(impl.LeastGivens(m.world, m.givens))
	case "everything":
		return needsText(impl.AllGivens(m.world, m.givens))
	case "overlaps":
		return pairsText(impl.OverlapsOf(m.world))
	case "growing":
		return indicesText(impl.GrowingOf(m.world))
	case "redundant":
		return indicesText(impl.RedundantOf(m.world))
	case "coherent":
		return strconv.FormatBool(impl.IsCoherent(m.world))
	case "ordered":
		return strconv.FormatBool(impl.IsOrdered(m.world))
	case "ending":
		return strconv.FormatBool(impl.IsEnding(m.world))
	case "closed":
		return strconv.FormatBool(impl.IsClosedAbove(m.world))
	case "gaps":
		return gapsText(impl.GapsOf(m.world))
	}
	return "what"
}

// aboutNeed returns false for a word that is not about a need alone.
func (m *deskModel) aboutNeed(word, rest string) (string, bool) {
	n, _ := impl.ParseNeed(rest)
	texts := map[string]func() string{
		"find":       func() string { return cmp.Or(impl.FindDict(m.world, n)) },
		"special":    func() string { return cmp.Or(impl.SpecialDict(m.world, n)) },
		"given":      func() string { return cmp.Or(impl.FindGiven(m.world, m.givens, n)) },
		"asked":      func() string { return orNo(needsText(impl.AskedFor(m.world, n))) },
		"failing":    func() string { return failingText(impl.FailingNeed(m.world, n)) },
		"stack":      func() string { return orNo(needsText(impl.StackOf(m.world, n))) },
		"candidates": func() string { return orNo(indicesText(impl.CandidatesOf(m.world, n))) },
		"may":        func() string { return orNo(indicesText(impl.MayMatch(m.world, n))) },
		"level":      func() string { return levelText(impl.LevelOf(m.world, n)) },
		"reduce":     func() string { return orNo(needsText(impl.ReduceNeed(m.world, n))) },
	}
	if texts[word] == nil {
		return "", false
	}
	return texts[word](), true
}

func (m *deskModel) ofTwo(word, first, second string) string {
	n, isNeed := impl.ParseNeed(second)
	switch word {
	case "all":
		return orNo(textsText(impl.AllDicts(m.world, n, numberByShape(first))))
	case "having":
		return orNo(textsText(impl.TypesHaving(m.world, first, numberByShape(second))))
	case "whynot":
		return orNo(indicesText(impl.WhyNot(m.world, first, numberByShape(second))))
	case "match":
		return orNo(bindingsText(impl.MatchType(first, second)))
	case "unify":
		return orNo(bindingsText(impl.UnifyTypes(first, second)))
	case "apart":
		if !impl.TypeValid(first) || !impl.TypeValid(second) {
			return "no"
		}
		return strconv.FormatBool(impl.AreApart(first, second))
	case "check", "evidence":
		if !isNeed {
			return "no"
		}
		return map[string]string{"check": impl.CheckDict(m.world, n, first), "evidence": impl.CheckGiven(m.world, m.givens, n, first)}[word]
	}
	return "what"
}

func (m *deskModel) output(line string) string {
	parts := lineShape.FindStringSubmatch(line)
	if parts == nil {
		return m.bare(line)
	}
	word, rest := parts[1], parts[2]
	if text, found := m.aboutNeed(word, rest); found {
		return text
	}
	switch word {
	case "world":
		return m.changeWorld(impl.ParseWorld(rest))
	case "instance":
		i, _ := impl.ParseInstance(rest)
		return m.changeWorld(impl.WithInstance(m.world, i))
	case "without":
		return m.changeWorld(impl.WithoutInstance(m.world, numberByShape(rest)))
	case "givens":
		list, ok := impl.ParseNeeds(rest)
		return m.changeGivens(list, ok && impl.GivensValid(m.world, list))
	case "form":
		form, _ := impl.FormOf(m.world, rest)
		return orNo(form)
	case "above":
		if !impl.HasClass(m.world, rest) {
			return "no"
		}
		return cmp.Or(impl.SupersOf(m.world, rest), "-")
	}
	return m.ofTwo(word, parts[3], parts[4])
}

// scriptByModel returns the output of a script, without its limits of bytes.
func scriptByModel(script string) string {
	m := &deskModel{world: worldOf("E")}
	output := ""
	for k, line := range strings.Split(script, "\n") {
		switch {
		case line == "":
		case k >= 100:
			return output + "full\n"
		default:
			output += m.output(line) + "\n"
		}
	}
	return output
}

// someLine returns a line for a world, most parts of which are what the line shows.
func someLine(r *rand.Rand, w impl.World) string {
	class := w.Classes[r.Intn(len(w.Classes))].Name
	need := func() impl.Need {
		return impl.Need{Class: someOf(r, class, class, class, "O"), Type: someOf(r, "x", "i", "l(i)", "p(x,i)", "p(i,l(b))", someForm(r, w, "ibxy"), someForm(r, w, "ibxy"), someType(r, "ibxy", 10))}
	}
	n := need()
	switch r.Intn(12) {
	case 0:
		return someOf(r, "world", "givens", "close", "least", "least", "everything", "overlaps", "growing", "redundant", "coherent", "ordered", "ending", "closed", "gaps", "find", "foo", "")
	case 1:
		return "instance " + impl.FormatInstance(searchedInstance(r, class+"O"))
	case 2:
		return "without " + strconv.Itoa(r.Intn(12)-1)
	case 3, 4:
		return "givens " + impl.FormatNeeds(someGivens(r, w, impl.Need{Class: class, Type: n.Type}))
	case 5:
		return someOf(r, "match ", "unify ", "apart ") + someType(r, "ixyX", 12) + " " + someType(r, "ibxyX", 12)
	case 6:
		return someOf(r, "having ", "whynot ") + class + " " + strconv.Itoa(r.Intn(4))
	case 7:
		return someOf(r, "form ", "check ") + someDict(r, w, class, 3) + someOf(r, "", " "+impl.FormatNeed(n))
	case 8:
		return "all " + strconv.Itoa(r.Intn(4)) + " " + impl.FormatNeed(n)
	case 9:
		return "evidence " + someOf(r, "a", "b", "aE", "bO", "0", "1(a)", "1(b)", "2(0,a)", someDict(r, w, class, 2)) + " " + impl.FormatNeed(n)
	case 10:
		return "above " + someOf(r, "E", "O", "S", "T")
	}
	return someOf(r, "find ", "special ", "given ", "given ", "asked ", "failing ", "stack ", "candidates ", "may ", "level ", "reduce ") + impl.FormatNeed(n)
}

// changedLine returns a line with one byte more, less or in place of another one.
func changedLine(r *rand.Rand, line string) string {
	letters := " 0123E Oibxylp(),&:;-\t"
	from := r.Intn(len(line) + 1)
	letter := letters[r.Intn(len(letters)):][:1]
	if r.Intn(3) == 0 {
		letter = ""
	}
	return line[:from] + letter + line[min(len(line), from+r.Intn(2)):]
}

func TestScriptsInManyWorlds(t *testing.T) {
	r := rand.New(rand.NewSource(41))
	counts := map[string]int{}
	for k := range 1500 {
		var lines []string
		for range 3 {
			w := []func(r *rand.Rand) impl.World{searchedWorld, fullWorld, aboveWorld, layeredWorld, closableWorld}[k%5](r)
			lines = append(lines, "world "+impl.FormatWorld(w))
			for range 10 {
				line := someLine(r, w)
				if r.Intn(5) == 0 {
					line = changedLine(r, line)
				}
				lines = append(lines, line)
			}
		}
		script := strings.Join(lines, "\n") + someOf(r, "", "\n", "\n\n")
		got, want := impl.RunScript(script), scriptByModel(script)
		if got != want {
			t.Fatalf("RunScript(%q) = %q, want %q", script, got, want)
		}
		outputs := strings.Split(got, "\n")
		for _, line := range lines {
			if line == "" {
				continue
			}
			word, _, _ := strings.Cut(line, " ")
			kind := "some"
			if slices.Contains([]string{"no", "what", "wrong"}, outputs[0]) {
				kind = outputs[0]
			}
			counts[kind]++
			counts[word+" "+kind]++
			outputs = outputs[1:]
		}
	}
	for _, word := range append(append(wordsThatNeedARest(), wordsThatNeedNone()...), "world", "givens") {
		if counts[word+" some"] < 30 {
			t.Errorf("of the lines of this test, %d with the word %s have an output", counts[word+" some"], word)
		}
	}
	for _, kind := range []string{"no", "what", "wrong", "instance no", "without no", "givens no", "find wrong", "given wrong", "stack no", "reduce no", "match no", "check wrong", "form no", "all no"} {
		if counts[kind] < 30 {
			t.Errorf("of the lines of this test, %d are so: %s", counts[kind], kind)
		}
	}
}

// TestScriptsAtTheSameTime has scripts that have to return the same each time.
func TestScriptsAtTheSameTime(t *testing.T) {
	runAtOnce(5, func() {
		checkScript(t, exampleScript, exampleOutput)
		checkScript(t, "world\ngivens E x\ninstance E i\ngivens", "E\nE x\nE;E i\n-\n")
	})
}

// FuzzScripts runs its seeds in each test run.
func FuzzScripts(f *testing.F) {
	for _, s := range []string{"", "\n", exampleScript, "world " + deskWorld + "\ngivens O x\nleast\nall 3 E l(i)\nwithout 0", strings.Repeat("x\n", 101), "world " + reasonWorld + "\nasked E p(i,i)\nfind E b\ncheck  E i", "world " + bigWorld() + "\nclose\nworld"} {
		f.Add(s)
	}
	f.Fuzz(func(t *testing.T, script string) {
		got := impl.RunScript(script)
		if again := impl.RunScript(script); again != got {
			t.Errorf("RunScript(%q) = %q, and then %q", script, got, again)
		}
		if got != "" && !strings.HasSuffix(got, "\n") {
			t.Errorf("RunScript(%q) = %q", script, got)
		}
		if want := scriptByModel(script); len(script) <= impl.MaxScript && len(want) <= impl.MaxOutput && got != want {
			t.Errorf("RunScript(%q) = %q, want %q", script, got, want)
		}
	})
}
