package tests

import (
	"math/rand"
	"reflect"
	"slices"
	"strconv"
	"strings"
	"sync"
	"testing"

	"loop.example/instancesearch/impl"
)

// pairsText returns pairs such as "0-1 0-2", as listText does.
func pairsText(list [][]int, ok bool) string {
	return listText(list, ok, " ", func(pair []int) string { return listText(pair, true, "-", strconv.Itoa) })
}

// A surveyed world has what the functions of overlaps and endings return for it.
type surveyed struct {
	world, overlaps string
	ordered         bool
	growing         string
	redundant       string
}

// checkSurvey holds a world against texts of lists, all of which are "" if it is not valid.
func checkSurvey(t *testing.T, w impl.World, want surveyed) {
	t.Helper()
	for _, c := range []struct{ name, got, want string }{
		{"OverlapsOf", pairsText(impl.OverlapsOf(w)), want.overlaps},
		{"GrowingOf", indicesText(impl.GrowingOf(w)), want.growing},
		{"RedundantOf", indicesText(impl.RedundantOf(w)), want.redundant},
		{"IsCoherent", strconv.FormatBool(impl.IsCoherent(w)), strconv.FormatBool(want.overlaps == "-")},
		{"IsOrdered", strconv.FormatBool(impl.IsOrdered(w)), strconv.FormatBool(want.ordered)},
		{"IsEnding", strconv.FormatBool(impl.IsEnding(w)), strconv.FormatBool(want.growing == "-")},
	} {
		if c.got != c.want {
			t.Errorf("%s(%.300q) = %q, want %q", c.name, w, c.got, c.want)
		}
	}
}

func checkSurveys(t *testing.T, list []surveyed) {
	t.Helper()
	for _, c := range list {
		checkSurvey(t, validWorld(t, c.world), c)
	}
}

// allPairs returns all pairs of indices below a number.
func allPairs(count int) string {
	var list [][]int
	for i := range count {
		for k := i + 1; k < count; k++ {
			list = append(list, []int{i, k})
		}
	}
	return pairsText(list, true)
}

func TestSurveysOfWorlds(t *testing.T) {
	checkSurveys(t, []surveyed{
		{"E;E i;E l(x):E x;E l(i)", "1-2", true, "-", "2"},
		{"E O;E i;E l(x):E x;E l(i);O l(x):E x&O x;O p(x,y):E p(x,x)", "1-2", true, "4", "2"},
		{"E O<E;E i;E b;E l(x):E x;E p(x,y):E x&E y;O i;O l(x):O x", "-", true, "-", "-"},
		{"E O<E;E i;E b;E l(x):E x;E p(x,y):E x&E y;O i;O l(x):O x;E l(i)", "2-6", true, "-", "6"},
		// None, one and ten instances.
		{"E", "-", true, "-", "-"}, {"A B C D", "-", true, "-", "-"},
		{"E;E i", "-", true, "-", "-"}, {"E;E l(x)", "-", true, "-", "-"}, {"E;E l(x):E x", "-", true, "-", "-"}, {"E;E l(x):E l(x)", "-", true, "0", "-"}, {"E O;E i:O i", "-", true, "0", "-"},
		{"E;E i;E b;E u;E l(x);E m(x);E p(i,x);E p(b,x);E p(u,x);E p(l(x),y);E p(m(x),y)", "-", true, "-", "-"},
		{"E O" + strings.Repeat(";E l(x)", 10), allPairs(10), true, "-", "0 1 2 3 4 5 6 7 8 9"},
		{"E O" + strings.Repeat(";E l(x):O l(x)", 10), allPairs(10), true, "0 1 2 3 4 5 6 7 8 9", "-"},
		{fourClasses + strings.Repeat(";D p(p(X,Y),p(Z,z)):A l(p(X,p(Y,Z)))&B p(l(l(l(z))),l(X))&C z", 10), allPairs(10), true, "0 1 2 3 4 5 6 7 8 9", "-"},
	})
}

func TestSurveysOfWorldsThatAreNotValid(t *testing.T) {
	for _, w := range append(worldsThatAreNotValid(), worldOf("E;E l(x);E l(i);E x"), worldOf("E;E i;E i;E q"), worldOf("E;E i;E i;E b:E i&E i&E i&E i"), worldOf("O E;E i;E i")) {
		checkSurvey(t, w, surveyed{})
	}
	// One instance more than there may be, or one that is not valid at each place.
	checkSurvey(t, worldOf("E"+strings.Repeat(";E i", 11)), surveyed{})
	for _, s := range instancesThatAreNotValid() {
		for place := range 3 {
			w := worldOf(threeClasses + ";E i;E i")
			w.Instances = slices.Insert(w.Instances, place, instanceOf(s))
			checkSurvey(t, w, surveyed{})
		}
	}
}

func TestPairsThatOverlap(t *testing.T) {
	checkSurveys(t, []surveyed{
		// Neither one is special to the other one.
		{"E;E p(x,i);E p(i,x)", "0-1", false, "-", "-"}, {"E;E p(x,l(y));E p(l(x),y)", "0-1", false, "-", "-"}, {"E;E p(x,x);E p(i,y)", "0-1", false, "-", "-"}, {"E;E p(x,p(y,y));E p(x,p(x,y))", "0-1", false, "-", "-"},
		// One of them is, the first one or the second one.
		{"E;E l(i);E l(x)", "0-1", true, "-", "0"}, {"E;E l(x);E l(i)", "0-1", true, "-", "1"}, {"E;E p(x,y);E p(x,x)", "0-1", true, "-", "1"}, {"E;E p(z,z);E p(x,y)", "0-1", true, "-", "0"}, {"E;E p(x,l(y));E p(x,l(x))", "0-1", true, "-", "1"}, {"E;E p(l(y),l(y));E p(x,x)", "0-1", true, "-", "0"},
		// Both are.
		{"E;E i;E i", "0-1", true, "-", "0 1"}, {"E;E l(x);E l(y)", "0-1", true, "-", "0 1"}, {"E;E p(x,y);E p(y,x)", "0-1", true, "-", "0 1"}, {"E;E p(x,x);E p(Z,Z)", "0-1", true, "-", "0 1"}, {"E;E p(p(X,Y),p(Z,z));E p(p(x,y),p(z,Z))", "0-1", true, "-", "0 1"},
		// They are apart, or one letter is two variables.
		{"E;E i;E b", "-", true, "-", "-"}, {"E;E l(x);E m(x)", "-", true, "-", "-"}, {"E;E p(x,i);E p(x,b)", "-", true, "-", "-"}, {"E;E l(x);E p(x,x)", "-", true, "-", "-"},
		{"E;E p(x,x);E p(i,b)", "-", true, "-", "-"}, {"E;E p(x,x);E p(x,l(x))", "-", true, "-", "-"}, {"E;E p(x,l(x));E p(l(x),x)", "-", true, "-", "-"}, {"E;E p(x,x);E p(y,l(y))", "-", true, "-", "-"},
		{"E;E l(x);E l(l(x))", "0-1", true, "-", "1"}, {"E;E p(x,i);E p(l(x),x)", "0-1", false, "-", "-"}, {"E;E p(x,l(x));E p(y,x)", "0-1", true, "-", "0"}, {"E;E p(x,l(y));E p(l(y),x)", "0-1", false, "-", "-"},
		// What is the same for one variable after the other makes others differ.
		{"E;E p(x,p(y,x));E p(i,p(i,b))", "-", true, "-", "-"}, {"E;E p(x,p(x,y));E p(y,p(l(z),z))", "0-1", false, "-", "-"}, {"E;E p(x,p(x,y));E p(y,p(l(z),y))", "0-1", false, "-", "-"}, {"E;E p(x,p(x,x));E p(y,p(l(z),z))", "-", true, "-", "-"}, {"E;E p(x,p(y,p(x,y)));E p(i,p(x,p(x,b)))", "-", true, "-", "-"},
		// Other classes, also those above.
		{"E O;E i;O i", "-", true, "-", "-"}, {"E O<E;E l(x);O l(x)", "-", true, "-", "-"}, {"E O<E;E l(x);O l(i);O l(y);E l(b)", "0-3 1-2", true, "-", "1 3"},
		// Needs are of no matter.
		{"E;E l(x):E x;E l(y)", "0-1", true, "-", "-"}, {"E O;E l(x):E x;E l(x):O x", "0-1", true, "-", "-"}, {"E;E p(x,i):E x;E p(i,x):E i", "0-1", false, "-", "-"},
	})
}

func TestSeveralPairsThatOverlap(t *testing.T) {
	checkSurveys(t, []surveyed{
		{"E;E p(x,i);E p(i,x);E p(x,x)", "0-1 0-2 1-2", false, "-", "-"},
		{"E;E p(x,i);E p(i,x);E p(i,i)", "0-1 0-2 1-2", false, "-", "2"},
		{"E;E p(i,i);E p(x,i);E p(x,y)", "0-1 0-2 1-2", true, "-", "0 1"},
		{"E;E l(i);E m(i);E l(x);E m(x);E l(l(x));E p(x,y)", "0-2 1-3 2-4", true, "-", "0 1 4"},
		{"E;E l(i);E m(x);E p(x,y);E p(x,x);E m(b);E l(y)", "0-5 1-4 2-3", true, "-", "0 3 4"},
		{"E O;E i;O i;E i;O i;E i;O b;O i", "0-2 0-4 1-3 1-6 2-4 3-6", true, "-", "0 1 2 3 4 6"},
		{"E O;E p(i,i);O p(x,i);E p(b,x);O p(i,x);E p(x,x);O p(x,y);E p(y,b)", "0-4 1-3 1-5 2-4 2-6 3-5 4-6", false, "-", "0 1 3"},
		// One pair of many that is not ordered, at the first and at the last place.
		{"E;E p(x,i);E p(i,x);E l(x);E l(i);E m(x);E m(i)", "0-1 2-3 4-5", false, "-", "3 5"},
		{"E;E l(x);E l(i);E m(x);E m(i);E p(x,i);E p(i,x)", "0-1 2-3 4-5", false, "-", "1 3"},
		{"E;E l(x);E l(i);E p(x,y);E p(i,x);E m(x);E p(x,i);E m(i)", "0-1 2-3 2-5 3-5 4-6", false, "-", "1 3 5 6"},
		// The last ones alone.
		{"E;E i;E b;E u;E l(x);E m(x);E p(i,x);E p(b,x);E p(u,x);E p(l(x),x);E p(l(i),y)", "8-9", false, "-", "-"},
		{"E;E i;E b;E u;E l(x);E m(x);E p(i,x);E p(b,x);E p(u,x);E p(l(x),x);E i", "0-9", true, "-", "0 9"},
	})
}

func TestNeedsThatAreSmaller(t *testing.T) {
	var list []surveyed
	for _, s := range []string{
		"A l(x):A x", "A l(x):A i", "A p(x,y):A x&A y", "A p(x,x):A l(x)", "A p(x,x):A x", "A p(x,p(x,x)):A p(x,x)", "A p(x,l(y)):A p(x,y)", "A p(x,l(y)):A p(y,x)", "A l(l(x)):A m(x)", "A l(l(x)):A l(i)", "A p(x,p(y,X)):A p(X,x)&A p(x,y)&A l(y)",
		"A p(p(x,y),p(z,x)):A p(x,p(x,z))", "A " + head20 + ":A p(x,l(l(x)))",
		// A lesser size with as many bytes, with more constructors within each other and with more of one letter.
		"A p(p(i,i),p(i,i)):A l(l(l(l(l(i)))))", "A p(p(x,i),p(y,b)):A l(l(l(l(l(x)))))", "A p(i,p(i,x)):A l(l(l(x)))", "A p(i,b):A l(u)", "A p(x,i):A l(u)&A l(x)",
	} {
		list = append(list, surveyed{"A;" + s, "-", true, "-", "-"})
	}
	for _, s := range []string{
		// As big as the type.
		"A l(x):A l(x)", "A l(x):A m(x)", "A l(x):A l(i)", "A i:A i", "A i:A b", "A p(x,y):A p(y,x)", "A p(x,y):A p(i,i)", "A p(x,x):A p(x,i)", "A l(l(x)):A p(i,x)", "A l(l(x)):A p(i,b)", "A p(x,x):A l(l(x))", "A p(x,y):A l(l(y))",
		// Bigger.
		"A i:A l(i)", "A l(x):A l(l(x))", "A l(x):A p(x,i)", "A p(x,i):A p(l(x),i)", "A l(l(l(l(l(i))))):A p(p(i,i),p(i,i))", "A l(l(l(l(l(l(i)))))):A p(p(i,i),p(i,i))", "A l(i):A p(b,u)",
		// A variable more often.
		"A l(l(x)):A p(x,x)", "A l(l(l(x))):A p(x,x)", "A p(x,l(i)):A p(x,x)", "A p(x,l(y)):A p(y,y)", "A p(x,l(y)):A p(x,x)", "A p(x,p(y,y)):A p(x,x)", "A p(p(x,y),p(z,y)):A p(x,p(z,z))", "A p(x,p(x,l(l(i)))):A p(x,p(x,x))", "A p(p(x,x),p(y,y)):A p(y,p(y,y))",
	} {
		list = append(list, surveyed{"A;" + s, "-", true, "0", "-"})
	}
	for _, v := range strings.Split(variables, "") {
		for _, other := range strings.Split(strings.ReplaceAll(variables, v, ""), "") {
			named := strings.NewReplacer("v", v, "o", other)
			list = append(list,
				surveyed{named.Replace("A;A p(v,l(o)):A p(v,v)"), "-", true, "0", "-"}, surveyed{named.Replace("A;A p(o,l(v)):A p(v,v)"), "-", true, "0", "-"},
				surveyed{named.Replace("A;A p(v,p(v,o)):A p(v,v)"), "-", true, "-", "-"}, surveyed{named.Replace("A;A p(o,l(v)):A p(v,o)"), "-", true, "-", "-"})
		}
	}
	checkSurveys(t, list)
}

func TestInstancesThatGrow(t *testing.T) {
	checkSurveys(t, []surveyed{
		// One need of many, at each place.
		{"E;E l(x):E l(x)&E x&E x", "-", true, "0", "-"}, {"E;E l(x):E x&E l(x)&E x", "-", true, "0", "-"}, {"E;E l(x):E x&E x&E l(x)", "-", true, "0", "-"}, {"E;E l(x):E l(x)&E l(x)&E l(x)", "-", true, "0", "-"}, {"E;E l(x):E x&E i&E b", "-", true, "-", "-"},
		{"E O;E p(x,y):E x&O p(x,x)&E y;O p(x,y):E y&O l(x)&E x", "-", true, "0", "-"},
		// Some instances of many.
		{"E O;E i;E l(x):E x;O l(x):O l(x);O i;E m(x):O l(l(x));O m(x):E x&O x;O p(x,y):E p(y,y)", "-", true, "2 4 6", "-"},
		{"E O;E i:O i;O i:E i", "-", true, "0 1", "-"}, {"E O;E l(x):O x;O l(x):E x", "-", true, "-", "-"}, {"E O<E;E l(x):O l(x);O l(x):E x", "-", true, "0", "-"},
	})
	for k := range 10 {
		list := slices.Repeat([]string{"E l(x):E x"}, 10)
		list[k] = "E l(x):E x&E m(x)"
		checkSurveys(t, []surveyed{{"E;" + strings.Join(list, ";"), allPairs(10), true, strconv.Itoa(k), "-"}})
	}
}

// chainWorld returns a world in which E i is an instance and, without this one, is met at a level.
func chainWorld(level int) string {
	types := []string{"i", "b", "u", "l(i)", "l(b)", "l(u)", "m(i)", "m(b)"}
	world := "E;E i"
	for k := range level {
		world += ";E " + types[k] + ":E " + types[k+1]
	}
	return world + ";E " + types[level]
}

func checkRedundant(t *testing.T, pairs ...string) {
	t.Helper()
	for k := 0; k < len(pairs); k += 2 {
		if got := indicesText(impl.RedundantOf(validWorld(t, pairs[k]))); got != pairs[k+1] {
			t.Errorf("RedundantOf(%q) = %q, want %q", pairs[k], got, pairs[k+1])
		}
	}
}

func TestInstancesThatAreRedundant(t *testing.T) {
	checkRedundant(t,
		"E;E l(i);E l(x):E x;E i", "0", "E;E i;E l(x):E x;E l(i);E l(l(i))", "2 3", "E;E p(i,l(i));E i;E p(x,y):E x&E y;E l(x):E x", "0", "E O;E l(x):O x;O i;E l(i);O l(i);E l(b)", "2",
		// By each other only.
		"E;E i;E i", "0 1", "E;E i;E i;E i", "0 1 2", "E;E l(x);E l(Z)", "0 1", "E;E i;E i:E b;E b:E i;E b", "0 3", "E O;E i;O i;E i:O i;O i:E i", "0 1", "E;E i;E b;E i:E u;E u:E b;E b:E i;E u", "0 1 5",
		// Instances with needs, whether they are met or not.
		"E;E i:E i;E i:E i", "-", "E;E i:E b;E i;E b;E b", "1 2 3", "E;E i:E b;E i:E b;E b", "-", "E;E l(x):E x;E l(x):E x;E i", "-",
		// Nothing else is for them, or what is has needs that are not met.
		"E;E i;E l(x):E x", "-", "E;E l(i);E l(x):E l(x)", "-", "E;E l(i);E l(x):E x", "-", "E;E l(i);E l(x):E x&E b;E i", "-", "E;E l(i);E l(x):E b&E x;E i", "-", "E;E m(i);E m(x):E m(p(x,x))", "-", "E;E l(x);E l(i):E i", "-",
		"E O;E i;O i", "-", "E O<E;E i;O i", "-", "E O<E;E l(i);O l(x);O i", "-",
		// Variables are as they are.
		"E;E p(x,x);E p(x,y)", "0", "E;E l(x);E l(y):E y", "-", "E;E l(l(x));E l(y):E y;E l(z)", "0", "E;E l(l(x));E l(y):E y", "-", "E;E l(m(x));E l(y):E y;E m(i)", "-", "E;E l(m(x));E l(y):E y;E m(Z)", "0",
		// A search finds too many candidates, and there are more dictionaries than a list may have.
		"E;E l(l(i))"+strings.Repeat(";E l(x):E x", 8)+";E i", "0",
		// One part has more dictionaries than a list may have, and the other one has none.
		"E;E p(l(l(l(i))),b);E p(x,y):E x&E y"+strings.Repeat(";E l(x):E x", 7)+";E i", "-", "E;E p(b,l(l(l(i))));E p(x,y):E x&E y"+strings.Repeat(";E l(x):E x", 7)+";E i", "-",
		// The dictionary has 1093 digits, and brackets between them.
		"E;E "+nested(6)+";E l(x):E x&E x&E x;E i", "0",
	)
	for level := range 8 {
		want := "0"
		switch level {
		case 0:
			want = "0 1"
		case 7:
			want = "-"
		}
		checkRedundant(t, chainWorld(level), want)
	}
	for count := 1; count <= 6; count++ {
		checkRedundant(t, "E;E "+nested(count)+";E l(x):E x;E i", "0", "E;E i;E l(x):E x;E "+nested(count), "2")
	}
}

// checkMade holds a world that was made against its text, "" for none.
func checkMade(t *testing.T, call string, w impl.World, ok bool, want string) {
	t.Helper()
	var world impl.World
	if want != "" {
		world = worldOf(want)
	}
	if ok != (want != "") || !sameWorld(w, world) || impl.FormatWorld(w) != want {
		t.Errorf("%.300s = %.300q, %v, want %.300q", call, w, ok, want)
	}
}

func checkWith(t *testing.T, w impl.World, i impl.Instance, want string) {
	t.Helper()
	got, ok := impl.WithInstance(w, i)
	checkMade(t, "WithInstance("+impl.FormatWorld(w)+", "+impl.FormatInstance(i)+")", got, ok, want)
}

func checkWithout(t *testing.T, w impl.World, i int, want string) {
	t.Helper()
	got, ok := impl.WithoutInstance(w, i)
	checkMade(t, "WithoutInstance("+impl.FormatWorld(w)+", "+strconv.Itoa(i)+")", got, ok, want)
}

func TestWorldsWithoutAnInstance(t *testing.T) {
	for _, s := range append(worldTexts(), choosingWorld, chainWorld(3), "E;E i;E i;E i:E i", "E;E l(x):E x&E x;E i;E l(x):E x", "O;O i", "A B<A C<AB;C i;B i;A i") {
		w := validWorld(t, s)
		for i := range w.Instances {
			parts := strings.Split(s, ";")
			checkWithout(t, w, i, strings.Join(slices.Delete(parts, 1+i, 2+i), ";"))
		}
		for _, out := range indicesThatAreOut(w) {
			if out < 0 || out >= len(w.Instances) {
				checkWithout(t, w, out, "")
			}
		}
	}
	for _, w := range append(worldsThatAreNotValid(), worldOf("E;E i;E x"), worldOf("E"+strings.Repeat(";E i", 11))) {
		for i := -1; i < 12; i++ {
			checkWithout(t, w, i, "")
		}
	}
}

func TestWorldsWithAnotherInstance(t *testing.T) {
	for _, world := range []string{threeClasses, threeClasses + ";S i", threeClasses + ";E i;O l(x):E x&O x;E i", threeClasses + strings.Repeat(";E p(x,y):E x&O y", 9)} {
		for _, s := range instancesThatAreValid() {
			checkWith(t, validWorld(t, world), instanceOf(s), world+";"+s)
		}
		for _, s := range instancesThatAreNotValid() {
			checkWith(t, validWorld(t, world), instanceOf(s), "")
		}
		checkWith(t, validWorld(t, world), impl.Instance{}, "")
		checkWith(t, validWorld(t, world), impl.Instance{Need: needOf("E i"), Needs: make([]impl.Need, 100000)}, "")
		checkWith(t, validWorld(t, world), impl.Instance{Need: needOf("E i"), Needs: []impl.Need{}}, world+";E i")
	}
	// There are ten instances, or more.
	for _, count := range []int{10, 11} {
		for _, s := range append(instancesThatAreValid(), instancesThatAreNotValid()...) {
			checkWith(t, worldOf(threeClasses+strings.Repeat(";E i", count)), instanceOf(s), "")
		}
	}
	for _, w := range append(worldsThatAreNotValid(), worldOf("E;E i;E x"), worldOf("O E")) {
		for _, s := range []string{"E i", "E l(i)", "E l(x):E x", "O i", "A i", "E x", ""} {
			checkWith(t, w, instanceOf(s), "")
		}
	}
	checkWith(t, worldOf("E;E i"), instanceOf("O i"), "")
	checkWith(t, worldOf("E;E i"), instanceOf("E l(x):O x"), "")
}

// TestWorldsThatGetBiggerAndSmaller goes from no instances to ten, one more and back, from both ends.
func TestWorldsThatGetBiggerAndSmaller(t *testing.T) {
	list := []string{"E i", "E l(x):E x", "O i", "O l(x):O x&E x", "E p(x,y):E x&E y&O i", "E i", "E l(x):E x", "O m(Z)", "E u:E i", "O p(Z,z)"}
	w := validWorld(t, "E O<E")
	for k, s := range list {
		checkWith(t, w, instanceOf(s), "E O<E;"+strings.Join(list[:k+1], ";"))
		w, _ = impl.WithInstance(w, instanceOf(s))
	}
	checkWith(t, w, instanceOf("E i"), "")
	for first, last := w, w; len(first.Instances) > 0; {
		checkWithout(t, first, 0, strings.Join(append([]string{"E O<E"}, list[11-len(first.Instances):]...), ";"))
		first, _ = impl.WithoutInstance(first, 0)
		checkWithout(t, last, len(last.Instances)-1, strings.Join(append([]string{"E O<E"}, list[:len(last.Instances)-1]...), ";"))
		last, _ = impl.WithoutInstance(last, len(last.Instances)-1)
	}
	// What was looked at once is looked at anew.
	u := validWorld(t, "E;E l(x);E m(x)")
	checkSurvey(t, u, surveyed{"", "-", true, "-", "-"})
	u, _ = impl.WithInstance(u, instanceOf("E l(i):E l(i)"))
	checkSurvey(t, u, surveyed{"", "0-2", true, "2", "-"})
	u, _ = impl.WithoutInstance(u, 0)
	checkSurvey(t, u, surveyed{"", "-", true, "1", "-"})
}

// growsByTexts counts letters in the texts of needs.
func growsByTexts(i impl.Instance) bool {
	return slices.ContainsFunc(i.Needs, func(n impl.Need) bool {
		grows := countDigits(n.Type) >= countDigits(i.Type)
		for _, v := range strings.Split(variables, "") {
			grows = grows || strings.Count(n.Type, v) > strings.Count(i.Type, v)
		}
		return grows
	})
}

func redundantByTexts(w impl.World, i int) bool {
	one := w.Instances[i]
	rest := slices.Concat(w.Instances[:i], w.Instances[i+1:])
	return len(one.Needs) == 0 && levelByTexts(impl.World{Classes: w.Classes, Instances: rest}, one.Need, 6, map[string]int{}) <= 6
}

func surveyByTexts(w impl.World) surveyed {
	var pairs [][]int
	var growing, redundant []int
	special, ordered := specialByTexts(w), true
	for i, one := range w.Instances {
		for k := range i {
			if w.Instances[k].Class == one.Class && !apartByTexts(one.Type, w.Instances[k].Type) {
				pairs = append(pairs, []int{k, i})
				ordered = ordered && (special[i][k] || special[k][i])
			}
		}
		if growsByTexts(one) {
			growing = append(growing, i)
		}
		if redundantByTexts(w, i) {
			redundant = append(redundant, i)
		}
	}
	slices.SortFunc(pairs, slices.Compare[[]int])
	return surveyed{impl.FormatWorld(w), pairsText(pairs, true), ordered, indicesText(growing, true), indicesText(redundant, true)}
}

func TestSurveysOfManyWorlds(t *testing.T) {
	r := rand.New(rand.NewSource(17))
	counts := map[string]int{}
	for k := range 1600 {
		w := []func(r *rand.Rand) impl.World{searchedWorld, fullWorld, manyWorld, func(r *rand.Rand) impl.World { return someWorld(r, someOf(r, "xyi", "xxyib", "XYZxyzib")) }}[k%4](r)
		want := surveyByTexts(w)
		checkSurvey(t, w, want)
		if t.Failed() {
			return
		}
		for name, found := range map[string]bool{
			"coherent": want.overlaps == "-", "ordered": want.ordered && want.overlaps != "-", "not ordered": !want.ordered, "ending": want.growing == "-", "growing": want.growing != "-", "redundant": want.redundant != "-",
		} {
			if found {
				counts[name]++
			}
		}
	}
	for _, name := range []string{"coherent", "ordered", "not ordered", "ending", "growing", "redundant"} {
		if counts[name] < 100 {
			t.Errorf("%d worlds of this test are %s", counts[name], name)
		}
	}
}

// TestPairsOfAllShortTypes holds that two instances overlap if and only if their types, with other letters, have a
// form in common, and that both are candidates of this form then.
func TestPairsOfAllShortTypes(t *testing.T) {
	types := slices.DeleteFunc(typesFrom("xyi", "l", 12), func(s string) bool { return strings.Contains("xy", s) })
	for _, a := range types {
		for _, b := range types {
			w := impl.World{Classes: classesOf("E"), Instances: []impl.Instance{instanceOf("E " + a), instanceOf("E " + b)}}
			list, ok := impl.OverlapsOf(w)
			meet, found := impl.MeetOf(a, impl.RenameType(b))
			candidates, _ := impl.CandidatesOf(w, impl.Need{Class: "E", Type: meet})
			if !ok || len(list) > 0 != found || len(candidates) == 2 != found {
				t.Errorf("OverlapsOf(%q) = %v, %v, and the form in common is %q", w, list, ok, meet)
			}
		}
	}
}

// coherentPart returns a world without the instances that overlap with one before.
func coherentPart(t *testing.T, w impl.World) impl.World {
	t.Helper()
	for !impl.IsCoherent(w) {
		pairs, _ := impl.OverlapsOf(w)
		other, ok := impl.WithoutInstance(w, pairs[0][1])
		if !ok {
			t.Fatalf("WithoutInstance(%q, %d) returns false", impl.FormatWorld(w), pairs[0][1])
		}
		w = other
	}
	return w
}

func TestDictionariesWithoutOverlapsAreUnique(t *testing.T) {
	r := rand.New(rand.NewSource(18))
	found, several := 0, 0
	for k := range 1200 {
		whole := []func(r *rand.Rand) impl.World{searchedWorld, fullWorld, manyWorld}[k%3](r)
		w := coherentPart(t, whole)
		for range 4 {
			n := impl.Need{Class: "E", Type: highType(r, someOf(r, "i", "i", "b", "x"), r.Intn(6))}
			candidates, _ := impl.CandidatesOf(w, n)
			list, _ := impl.AllDicts(w, n, 6)
			_, why := impl.FindDict(w, n)
			if len(candidates) > 1 || len(list) > 1 || why == "many" {
				t.Errorf("in the coherent world %q, %q has the dictionaries %q", impl.FormatWorld(w), n, list)
			}
			found += len(list)
			if impl.CountDicts(whole, n, 6) > 1 {
				several++
			}
		}
	}
	if found < 300 || several < 300 {
		t.Errorf("%d needs of this test have a dictionary, and with overlaps %d have several", found, several)
	}
}

// endingPart returns a world without the instances that have a need that is not smaller.
func endingPart(t *testing.T, w impl.World) impl.World {
	t.Helper()
	list, _ := impl.GrowingOf(w)
	for _, i := range slices.Backward(list) {
		w, _ = impl.WithoutInstance(w, i)
	}
	if !impl.IsEnding(w) {
		t.Errorf("the world %q is not ending", impl.FormatWorld(w))
	}
	return w
}

func TestSearchesOfSmallerNeedsEnd(t *testing.T) {
	r := rand.New(rand.NewSource(19))
	counts, before := map[string]int{}, map[string]int{}
	for k := range 2000 {
		whole := []func(r *rand.Rand) impl.World{searchedWorld, fullWorld}[k%2](r)
		w := endingPart(t, whole)
		for _, s := range []string{highType(r, someOf(r, "i", "x"), r.Intn(20)), someForm(r, whole, "ibx"), someType(r, "ib", 60)} {
			n := impl.Need{Class: "E", Type: s}
			_, why := impl.FindDict(w, n)
			counts[why]++
			_, why = impl.FindDict(whole, n)
			before[why]++
			_, why = impl.SpecialDict(w, n)
			counts[why]++
		}
	}
	if counts["deep"]+counts["big"] > 0 || counts[""] < 200 || before["deep"] < 20 || before["big"] < 20 {
		t.Errorf("of the searches of this test, these numbers have the reasons: %v, and %v before", counts, before)
	}
}

func TestPairsAreNewMemory(t *testing.T) {
	w := validWorld(t, "E;E i;E i;E i")
	first, _ := impl.OverlapsOf(w)
	second, _ := impl.OverlapsOf(w)
	for k, pair := range first {
		for place := range pair[:cap(pair)] {
			pair[:cap(pair)][place] = -7
		}
		for other := k + 1; other < len(first); other++ {
			if slices.Contains(first[other], -7) {
				t.Errorf("the pairs %d and %d share memory", k, other)
			}
		}
	}
	clear(first[:cap(first)])
	if pairsText(second, true) != allPairs(3) || pairsText(impl.OverlapsOf(w)) != allPairs(3) {
		t.Errorf("results of OverlapsOf share memory: %v", second)
	}
	w = validWorld(t, "E;E i;E i;E l(x):E l(x);E m(x):E l(x);E i")
	for want, call := range map[string]func(w impl.World) ([]int, bool){"2 3": impl.GrowingOf, "0 1 4": impl.RedundantOf} {
		list, _ := call(w)
		other, _ := call(w)
		for k := range list[:cap(list)] {
			list[:cap(list)][k] = -7
		}
		if indicesText(other, true) != want || indicesText(call(w)) != want {
			t.Errorf("lists of instances share memory: %v, not %s", other, want)
		}
	}
}

// spoil changes all memory of a world, also that behind its slices.
func spoil(w impl.World) {
	for _, i := range w.Instances {
		clear(i.Needs[:cap(i.Needs)])
	}
	clear(w.Classes[:cap(w.Classes)])
	clear(w.Instances[:cap(w.Instances)])
}

// checkOwnNeeds holds that no two lists of needs of a world share memory. It changes them.
func checkOwnNeeds(t *testing.T, w impl.World) {
	t.Helper()
	text := impl.FormatWorld(w)
	for k, i := range w.Instances {
		for n := range i.Needs[:cap(i.Needs)] {
			i.Needs[:cap(i.Needs)][n] = needOf("Z q")
		}
		for other := k + 1; other < len(w.Instances); other++ {
			if slices.Contains(w.Instances[other].Needs, needOf("Z q")) {
				t.Errorf("the needs of the instances %d and %d of %q share memory", k, other, text)
			}
		}
	}
}

func TestWorldsThatAreMadeAreNewMemory(t *testing.T) {
	text, more := threeClasses+";E l(x):E x&O x;O i:E i&E i;S i", "O l(x):S x&E x"
	for _, c := range []struct {
		call func(w impl.World, i impl.Instance) (impl.World, bool)
		want string
	}{
		{impl.WithInstance, text + ";" + more},
		{func(w impl.World, i impl.Instance) (impl.World, bool) { return impl.WithoutInstance(w, 0) }, threeClasses + ";O i:E i&E i;S i"},
		{func(w impl.World, i impl.Instance) (impl.World, bool) { return impl.WithoutInstance(w, 2) }, threeClasses + ";E l(x):E x&O x;O i:E i&E i"},
		// An instance of the world once more.
		{func(w impl.World, i impl.Instance) (impl.World, bool) { return impl.WithInstance(w, w.Instances[0]) }, text + ";E l(x):E x&O x"},
	} {
		w, i := withRoom(worldOf(text)), instanceOf(more)
		first, _ := c.call(w, i)
		second, _ := c.call(w, i)
		checkOwnNeeds(t, first)
		spoil(first)
		if !sameWorld(second, worldOf(c.want)) || !reflect.DeepEqual(behind(w), behind(withRoom(worldOf(text)))) || !sameInstance(i, instanceOf(more)) {
			t.Errorf("results share memory: %q, of %q and %q", second, w, i)
		}
		third, _ := c.call(w, i)
		spoil(w)
		clear(i.Needs)
		if !sameWorld(third, worldOf(c.want)) {
			t.Errorf("a result shares memory with an argument: %q", third)
		}
	}
	// Needs that share memory in an argument.
	list := []impl.Need{needOf("E x"), needOf("O x"), needOf("S x")}
	w := impl.World{Classes: classesOf(threeClasses), Instances: []impl.Instance{{Need: needOf("E l(x)"), Needs: list[:2]}, {Need: needOf("O l(x)"), Needs: list[1:]}}}
	other, _ := impl.WithInstance(w, impl.Instance{Need: needOf("S m(x)"), Needs: list})
	checkOwnNeeds(t, other)
	other, _ = impl.WithoutInstance(other, 0)
	checkOwnNeeds(t, other)
	if !slices.Equal(list, []impl.Need{needOf("E x"), needOf("O x"), needOf("S x")}) {
		t.Errorf("a result shares memory with an argument: %q", list)
	}
}

func TestSurveysLeaveWorldsAsTheyAre(t *testing.T) {
	for _, s := range append(worldTexts(), choosingWorld, chainWorld(3), numberWorld, "O E", "E;E x", "E O<E;E l(x):E y", "A B C D E;A i") {
		w, same := withRoom(worldOf(s)), withRoom(worldOf(s))
		needs := []impl.Need{needOf("E x"), needOf("E i"), needOf("kept kept")}
		impl.OverlapsOf(w)
		impl.IsCoherent(w)
		impl.IsOrdered(w)
		impl.GrowingOf(w)
		impl.IsEnding(w)
		impl.RedundantOf(w)
		for i := -1; i < 11; i++ {
			impl.WithoutInstance(w, i)
			impl.WithInstance(w, impl.Instance{Need: needOf("E l(x)"), Needs: needs[:2]})
		}
		if !reflect.DeepEqual(behind(w), behind(same)) || !slices.Equal(needs, []impl.Need{needOf("E x"), needOf("E i"), needOf("kept kept")}) {
			t.Errorf("the world %q became %q, the needs %q", s, w, needs)
		}
	}
}

// runAtOnce has calls in several goroutines, some one after the other in each.
func runAtOnce(count int, call func()) {
	var group sync.WaitGroup
	for range 16 {
		group.Add(1)
		go func() {
			defer group.Done()
			for range count {
				call()
			}
		}()
	}
	group.Wait()
}

// TestSurveysAtTheSameTime has calls for one world, which have to return the same each time.
func TestSurveysAtTheSameTime(t *testing.T) {
	want := surveyed{"E;E i;E p(x,i);E p(i,x);E l(x):E x;E l(i);E m(x):E m(x);E i", "0-6 1-2 3-4", false, "5", "0 4 6"}
	w := validWorld(t, want.world)
	runAtOnce(50, func() { checkSurvey(t, w, want) })
}
