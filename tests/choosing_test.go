package tests

import (
	"math"
	"math/rand"
	"reflect"
	"slices"
	"strconv"
	"strings"
	"testing"

	"loop.example/instancesearch/impl"
)

// listText returns the texts of a list with a mark between them, "-" for an empty list, the empty text if there is no list.
func listText[T any](list []T, ok bool, mark string, text func(element T) string) string {
	if ok && len(list) == 0 {
		return "-"
	}
	var texts []string
	for _, element := range list {
		texts = append(texts, text(element))
	}
	if !ok && len(list) > 0 {
		texts = append(texts, "false")
	}
	return strings.Join(texts, mark)
}

func indicesText(list []int, ok bool) string { return listText(list, ok, " ", strconv.Itoa) }

func needsText(list []impl.Need, ok bool) string { return listText(list, ok, "&", impl.FormatNeed) }

// checkChoice holds what the functions return for a need of a world against texts of lists.
func checkChoice(t *testing.T, w impl.World, n impl.Need, candidates, mayMatch string, special int) {
	t.Helper()
	if got := impl.NeedValid(w, n); got != (candidates != "") {
		t.Errorf("NeedValid(%.300q, %.300q) = %v", w, n, got)
	}
	if got := indicesText(impl.CandidatesOf(w, n)); got != candidates {
		t.Errorf("CandidatesOf(%.300q, %.300q) = %q, want %q", w, n, got, candidates)
	}
	if got := indicesText(impl.MayMatch(w, n)); got != mayMatch {
		t.Errorf("MayMatch(%.300q, %.300q) = %q, want %q", w, n, got, mayMatch)
	}
	if got := impl.MostSpecial(w, n); got != special {
		t.Errorf("MostSpecial(%.300q, %.300q) = %d, want %d", w, n, got, special)
	}
}

type choice struct {
	need, candidates, mayMatch string
	special                    int
}

func checkChoices(t *testing.T, world string, list []choice) {
	t.Helper()
	if !impl.WorldValid(worldOf(world)) {
		t.Errorf("the world %q of this test is not valid", world)
	}
	for _, c := range list {
		checkChoice(t, worldOf(world), needOf(c.need), c.candidates, c.mayMatch, c.special)
	}
}

const choosingWorld = "E O;E i;E l(x):E x;E l(i);O p(x,y):E x&O l(y);O p(x,x)"

func TestChoicesOfNeeds(t *testing.T) {
	checkChoices(t, choosingWorld, []choice{
		{"E i", "0", "0", 0}, {"E b", "-", "-", -1}, {"O i", "-", "-", -1}, {"O l(i)", "-", "-", -1}, {"E p(i,i)", "-", "-", -1}, {"E m(i)", "-", "-", -1},
		{"E l(i)", "1 2", "1 2", 2}, {"E l(b)", "1", "1", 1}, {"E l(l(i))", "1", "1", 1}, {"E l(p(i,b))", "1", "1", 1},
		{"O p(i,b)", "3", "3", 3}, {"O p(i,i)", "3 4", "3 4", 4}, {"O p(l(i),l(i))", "3 4", "3 4", 4}, {"O p(l(i),l(b))", "3", "3", 3},
	})
	checkChoices(t, "E;E i;E l(x):E x;E l(i)", []choice{{"E l(i)", "1 2", "1 2", 2}})
	checkChoices(t, "E O<E", []choice{{"E i", "-", "-", -1}, {"O x", "-", "-", -1}})
	// Instances of classes above and below are none of the class.
	checkChoices(t, "E O<E;E i;O i;O l(x);E l(x)", []choice{{"E i", "0", "0", 0}, {"O i", "1", "1", 1}, {"E l(b)", "3", "3", 3}, {"O l(b)", "2", "2", 2}, {"O x", "-", "1 2", -1}, {"E x", "-", "0 3", -1}})
	// Needs of instances have no part in the choice.
	checkChoices(t, "E O;E l(x):O x;E l(x):E l(l(x));E i:E i;E i:O b", []choice{{"E l(i)", "0 1", "0 1", 0}, {"E i", "2 3", "2 3", 2}, {"O i", "-", "-", -1}})
}

func TestChoicesOfNeedsWithVariables(t *testing.T) {
	checkChoices(t, choosingWorld, []choice{
		{"E x", "-", "0 1 2", -1}, {"E Z", "-", "0 1 2", -1}, {"O y", "-", "3 4", -1},
		{"E l(x)", "1", "1 2", 1}, {"E l(y)", "1", "1 2", 1}, {"E l(X)", "1", "1 2", 1}, {"E l(l(x))", "1", "1", 1}, {"E l(p(x,y))", "1", "1", 1}, {"E m(x)", "-", "-", -1},
		{"O p(x,y)", "3", "3 4", 3}, {"O p(y,x)", "3", "3 4", 3}, {"O p(x,x)", "3 4", "3 4", 4}, {"O p(z,z)", "3 4", "3 4", 4}, {"O p(x,i)", "3", "3 4", 3}, {"O p(i,x)", "3", "3 4", 3}, {"O p(x,l(x))", "3", "3", 3}, {"O p(x,l(y))", "3", "3 4", 3},
		{"O p(l(x),l(y))", "3", "3 4", 3}, {"O p(l(y),l(y))", "3 4", "3 4", 4}, {"O l(x)", "-", "-", -1},
	})
	// One letter in the need and in an instance is two variables.
	checkChoices(t, "E;E l(x);E p(x,l(y));E p(l(x),x);E p(x,p(y,x))", []choice{
		{"E l(l(x))", "0", "0", 0}, {"E p(x,l(x))", "1", "1", 1}, {"E p(y,l(x))", "1", "1 2", 1}, {"E p(l(y),y)", "2", "1 2", 2}, {"E p(l(x),l(x))", "1", "1", 1}, {"E p(l(l(x)),l(x))", "1 2", "1 2", -1},
		{"E p(y,p(x,y))", "3", "3", 3}, {"E p(x,x)", "-", "1", -1}, {"E p(y,x)", "-", "1 2 3", -1}, {"E p(x,i)", "-", "2", -1}, {"E p(l(x),p(x,x))", "-", "-", -1}, {"E p(x,p(x,x))", "3", "3", 3}, {"E p(y,p(x,l(x)))", "-", "2 3", -1},
	})
}

func TestInstancesThatAreTheSame(t *testing.T) {
	checkChoices(t, "E O;E i;E i;O i;E i", []choice{{"E i", "0 1 3", "0 1 3", 0}, {"O i", "2", "2", 2}, {"E x", "-", "0 1 3", -1}})
	// Types that differ in the letters of their variables alone are of the form of each other.
	checkChoices(t, "E;E l(y):E y;E l(x):E x;E l(Z)", []choice{{"E l(i)", "0 1 2", "0 1 2", 0}, {"E l(z)", "0 1 2", "0 1 2", 0}})
	checkChoices(t, "E;E p(x,y);E p(x,x);E p(y,y):E y;E p(y,x);E p(z,z)", []choice{{"E p(i,i)", "0 1 2 3 4", "0 1 2 3 4", 1}, {"E p(i,b)", "0 3", "0 3", 0}, {"E p(x,y)", "0 3", "0 1 2 3 4", 0}})
	checkChoices(t, "E;E p(x,i);E p(i,x);E p(i,y);E p(y,i)", []choice{{"E p(i,i)", "0 1 2 3", "0 1 2 3", -1}, {"E p(b,i)", "0 3", "0 3", 0}, {"E p(i,b)", "1 2", "1 2", 1}})
	checkChoices(t, "E"+strings.Repeat(";E l(x)", 10), []choice{{"E l(b)", "0 1 2 3 4 5 6 7 8 9", "0 1 2 3 4 5 6 7 8 9", 0}})
}

func TestMostSpecialOfMany(t *testing.T) {
	// Wherever it stands.
	checkChoices(t, "E;E l(l(i));E l(l(x));E l(x)", []choice{{"E l(l(i))", "0 1 2", "0 1 2", 0}, {"E l(l(b))", "1 2", "1 2", 1}, {"E l(i)", "2", "2", 2}})
	checkChoices(t, "E;E l(x);E l(l(i));E l(l(x))", []choice{{"E l(l(i))", "0 1 2", "0 1 2", 1}, {"E l(l(b))", "0 2", "0 2", 2}})
	checkChoices(t, "E;E l(l(x));E l(x);E l(l(i))", []choice{{"E l(l(i))", "0 1 2", "0 1 2", 2}, {"E l(l(b))", "0 1", "0 1", 0}})
	// None of the candidates is.
	checkChoices(t, "E;E p(x,i);E p(i,x)", []choice{{"E p(i,i)", "0 1", "0 1", -1}, {"E p(x,y)", "-", "0 1", -1}, {"E p(i,y)", "1", "0 1", 1}, {"E p(b,i)", "0", "0", 0}})
	checkChoices(t, "E;E p(x,y);E p(x,i);E p(i,x)", []choice{{"E p(i,i)", "0 1 2", "0 1 2", -1}, {"E p(b,i)", "0 1", "0 1", 1}, {"E p(b,b)", "0", "0", 0}})
	checkChoices(t, "E;E p(x,i);E p(x,x);E p(x,y)", []choice{{"E p(i,i)", "0 1 2", "0 1 2", -1}})
	checkChoices(t, "E;E p(l(x),y);E p(x,l(y));E p(x,x)", []choice{{"E p(l(i),l(i))", "0 1 2", "0 1 2", -1}, {"E p(l(i),l(b))", "0 1", "0 1", -1}, {"E p(i,i)", "2", "2", 2}})
	// One is special to two that are not special to each other.
	checkChoices(t, "E;E p(x,i);E p(i,x);E p(i,i)", []choice{{"E p(i,i)", "0 1 2", "0 1 2", 2}})
	checkChoices(t, "E;E p(i,i);E p(x,i);E p(i,x);E p(x,y);E p(x,x)", []choice{{"E p(i,i)", "0 1 2 3 4", "0 1 2 3 4", 0}})
	// An instance that is no candidate, or of another class, is of no matter.
	checkChoices(t, "E O;O l(i);E l(l(i));E l(x)", []choice{{"E l(i)", "2", "2", 2}, {"O l(i)", "0", "0", 0}, {"E l(x)", "2", "1 2", 2}})
}

func TestNeedsOfOtherClassesAndTypes(t *testing.T) {
	for _, world := range []string{choosingWorld, "E O", "E O;O i"} {
		for _, class := range []string{"", "A", "T", "Z", "e", "i", "EO", "EE", "E ", " E", "O;", "\xff", "\x00"} {
			checkChoice(t, worldOf(world), impl.Need{Class: class, Type: "i"}, "", "", -1)
			checkChoice(t, worldOf(world), impl.Need{Class: class, Type: "x"}, "", "", -1)
		}
		for _, s := range textsThatAreNoTypes() {
			checkChoice(t, worldOf(world), impl.Need{Class: "E", Type: s}, "", "", -1)
			checkChoice(t, worldOf(world), impl.Need{Class: "O", Type: s}, "", "", -1)
		}
		checkChoice(t, worldOf(world), impl.Need{}, "", "", -1)
		checkChoice(t, worldOf(world), impl.Need{Class: "E", Type: "l(" + twice(long28) + ")"}, "", "", -1)
	}
	// A need may be longer than the types of instances.
	checkChoices(t, choosingWorld, []choice{
		{"E " + head21, "1", "1", 1}, {"E " + nested(19), "1", "1", 1}, {"E " + twice(long28), "-", "-", -1}, {"O " + twice(long28), "3 4", "3 4", 4}, {"O p(x," + nested(18) + ")", "3", "3 4", 3},
	})
}

// worldsThatAreNotValid has worlds that would have candidates of `E l(i)` otherwise.
func worldsThatAreNotValid() []impl.World {
	list := []impl.World{
		{}, {Instances: []impl.Instance{instanceOf("E l(x)")}}, {Classes: make([]impl.Class, 100000)}, {Classes: classesOf("E"), Instances: make([]impl.Instance, 100000)},
	}
	for _, s := range []string{
		"A B C D E;E l(x)", "O E;E l(x)", "E E;E l(x)", "E O<T;E l(x)", "E<E;E l(x)", "E Z;E l(x)", "E;E l(x);E x", "E;E l(x);O i", "E;E l(x);E q", "E;E l(x);E ", "E;E l(x):E y", "E;E l(x):O x", "E;E l(x);E b:E q",
		"E;E l(x):E x&E x&E x&E x", "E;E l(x);E " + head21, "E;E l(x):E " + head21, "E" + strings.Repeat(";E l(x)", 11),
	} {
		list = append(list, worldOf(s))
	}
	return list
}

func TestChoosingInWorldsThatAreNotValid(t *testing.T) {
	for _, w := range worldsThatAreNotValid() {
		for _, s := range []string{"E l(i)", "E l(x)", "E x", "O i", "A i", " ", ""} {
			n := needOf(s)
			checkChoice(t, w, n, "", "", -1)
			if list, ok := impl.InstancesFor(w, n.Class); ok || len(list) != 0 {
				t.Errorf("InstancesFor(%.300q, %q) = %v, %v", w, n.Class, list, ok)
			}
			for i := -1; i < 3; i++ {
				if list, ok := impl.NeedsOf(w, i, n.Type); ok || len(list) != 0 {
					t.Errorf("NeedsOf(%.300q, %d, %q) = %v, %v", w, i, n.Type, list, ok)
				}
			}
		}
		for i := -1; i < 3; i++ {
			for k := -1; k < 3; k++ {
				if impl.IsSpecial(w, i, k) {
					t.Errorf("IsSpecial(%.300q, %d, %d) = true", w, i, k)
				}
			}
		}
	}
}

func TestInstancesFor(t *testing.T) {
	for _, c := range []struct{ world, class, want string }{
		{choosingWorld, "E", "0 1 2"}, {choosingWorld, "O", "3 4"}, {"E;E i;E l(x):E x;E l(i)", "E", "0 1 2"}, {"E O", "E", "-"}, {"E O", "O", "-"}, {"E O;E i", "O", "-"}, {"E O<E;O i", "E", "-"}, {"E O<E;O i", "O", "0"},
		{"E O<E;O i;E i;O i;E l(x):O x", "E", "1 3"}, {"E O<E;O i;E i;O i;E l(x):O x", "O", "0 2"}, {"A B C D;D i;C i;B i;A i;D b;C b;B b;A b;D u;A u", "A", "3 7 9"}, {"A B C D;D i;C i;B i;A i;D b;C b;B b;A b;D u;A u", "D", "0 4 8"},
		{"E" + strings.Repeat(";E i", 10), "E", "0 1 2 3 4 5 6 7 8 9"},
		{choosingWorld, "A", ""}, {choosingWorld, "", ""}, {choosingWorld, "EO", ""}, {choosingWorld, "E ", ""}, {choosingWorld, "e", ""}, {choosingWorld, "Z", ""}, {choosingWorld, "\xff", ""}, {"E O", "A", ""}, {"E", "O", ""},
	} {
		if got := indicesText(impl.InstancesFor(worldOf(c.world), c.class)); got != c.want {
			t.Errorf("InstancesFor(%q, %q) = %q, want %q", c.world, c.class, got, c.want)
		}
	}
}

// indicesThatAreOut returns numbers that refer to none of a world's instances.
func indicesThatAreOut(w impl.World) []int {
	return []int{-1, -2, -len(w.Instances), len(w.Instances), len(w.Instances) + 1, 100, math.MaxInt, math.MinInt, math.MinInt32, 1 << 32, -1 << 32}
}

func TestNeedsOf(t *testing.T) {
	world := "E O;E i;E l(x):E x;E p(x,y):O y&E x;O p(x,p(y,X)):E p(X,x)&O l(l(y))&E y;O m(x):E i&O m(x);E p(x,x):E x;E l(Z):O Z&O Z&O Z;O p(x,y):E p(y,p(x,y));E b:E i&O l(b)"
	for _, c := range []struct {
		i       int
		t, want string
	}{
		{0, "i", "-"}, {1, "l(i)", "E i"}, {1, "l(p(i,b))", "E p(i,b)"}, {2, "p(i,b)", "O b&E i"}, {3, "p(i,p(b,u))", "E p(u,i)&O l(l(b))&E b"}, {4, "m(b)", "E i&O m(b)"}, {5, "p(i,i)", "E i"}, {6, "l(b)", "O b&O b&O b"}, {7, "p(i,b)", "E p(b,p(i,b))"}, {8, "b", "E i&O l(b)"},
		// Variables, also those of the instance, all at once and once only.
		{1, "l(x)", "E x"}, {1, "l(y)", "E y"}, {1, "l(l(x))", "E l(x)"}, {1, "l(p(x,l(x)))", "E p(x,l(x))"}, {2, "p(y,x)", "O x&E y"}, {2, "p(y,i)", "O i&E y"}, {2, "p(l(y),l(x))", "O l(x)&E l(y)"}, {2, "p(x,x)", "O x&E x"},
		{3, "p(y,p(X,x))", "E p(x,y)&O l(l(X))&E X"}, {4, "m(x)", "E i&O m(x)"}, {5, "p(l(x),l(x))", "E l(x)"}, {6, "l(x)", "O x&O x&O x"}, {7, "p(y,x)", "E p(x,p(y,x))"},
		// Types that are not of the form.
		{0, "b", ""}, {0, "x", ""}, {0, "l(i)", ""}, {1, "i", ""}, {1, "x", ""}, {1, "m(i)", ""}, {1, "p(i,i)", ""}, {2, "l(i)", ""}, {3, "p(i,b)", ""}, {3, "p(i,x)", ""}, {5, "p(i,b)", ""}, {5, "p(x,y)", ""}, {5, "p(x,l(x))", ""}, {8, "i", ""},
	} {
		if got := needsText(impl.NeedsOf(worldOf(world), c.i, c.t)); got != c.want {
			t.Errorf("NeedsOf(%d, %q) = %q, want %q", c.i, c.t, got, c.want)
		}
	}
	for i := range worldOf(world).Instances {
		for _, s := range textsThatAreNoTypes() {
			if got := needsText(impl.NeedsOf(worldOf(world), i, s)); got != "" {
				t.Errorf("NeedsOf(%d, %q) = %q", i, s, got)
			}
		}
	}
	for _, text := range []string{world, "E", "E;E i"} {
		for _, i := range indicesThatAreOut(worldOf(text)) {
			for _, s := range []string{"i", "l(i)", "x", ""} {
				if got := needsText(impl.NeedsOf(worldOf(text), i, s)); got != "" {
					t.Errorf("NeedsOf(%q, %d, %q) = %q", text, i, s, got)
				}
			}
		}
	}
}

func TestLongestTypesOfNeedsOf(t *testing.T) {
	for _, c := range []struct {
		world, t string
		length   int
	}{
		{"E;E l(x):E p(x,x)", "l(" + long28 + ")", 60},
		{"E;E l(x):E p(x,p(x,i))", "l(" + long26 + ")", 61},
		{"E;E l(x):E p(x,l(x))", "l(" + long28 + ")", 63},
		{"E;E l(x):E l(x)", "l(" + nested(18) + ")", 58},
		{"E;E p(x,y):E p(y,x)", twice(long28), 60},
		{"E;E p(x,y):E p(y,l(x))", twice(long28), 63},
		{"E;E l(x):E p(x,p(x,p(x,x)))", "l(" + nested(18) + ")", 232},
		{"E;E l(x):E p(p(x,x),p(x,x))", "l(l(l(l(p(i,b)))))", 72},
	} {
		w := worldOf(c.world)
		pattern, n := w.Instances[0].Type, w.Instances[0].Needs[0]
		list, _ := impl.MatchType(pattern, c.t)
		want := n.Type
		for _, b := range list {
			want = strings.ReplaceAll(want, b.Var, b.Type)
		}
		if !impl.WorldValid(w) || !impl.TypeValid(c.t) || len(want) != c.length {
			t.Fatalf("the need of %q for %q has %d bytes", c.world, c.t, len(want))
		}
		if c.length > 60 {
			want = ""
		} else {
			want = "E " + want
		}
		if got := needsText(impl.NeedsOf(w, 0, c.t)); got != want {
			t.Errorf("NeedsOf(%q, %q) = %q, want %q", c.world, c.t, got, want)
		}
		// One need that is too long is enough, wherever it stands, and the need itself has its candidate.
		for place := range 3 {
			needs := []impl.Need{needOf("E x"), needOf("E x"), needOf("E x")}
			needs[place] = n
			w := impl.World{Classes: classesOf("E"), Instances: []impl.Instance{{Need: w.Instances[0].Need, Needs: needs}}}
			if got, ok := impl.NeedsOf(w, 0, c.t); ok != (want != "") || ok != (len(got) == 3) || !ok && len(got) != 0 {
				t.Errorf("NeedsOf(%q, %q) = %q, %v", w, c.t, got, ok)
			}
			checkChoice(t, w, impl.Need{Class: "E", Type: c.t}, "0", "0", 0)
		}
	}
}

func TestIsSpecial(t *testing.T) {
	for _, c := range []struct {
		world string
		// rows has one text for each instance, with + for those to which it is special.
		rows string
	}{
		{choosingWorld, "+---- -+--- -++-- ---+- ---++"},
		{"E;E i;E l(x):E x;E l(i)", "+-- -+- -++"},
		{"E;E p(x,i);E p(i,x);E p(i,i);E p(x,y)", "+--+ -+-+ ++++ ---+"},
		{"E;E p(x,x);E p(y,l(y));E p(l(x),y);E p(l(l(i)),l(i))", "+--- -+-- --+- --++"},
		{"E;E l(x);E l(y);E l(Z);E l(l(x))", "+++- +++- +++- ++++"},
		{"E;E p(x,y);E p(y,x);E p(x,x);E p(y,y)", "++-- ++-- ++++ ++++"},
		// Instances that are the same, and the same types of other classes.
		{"E O;E i;E i;O i;O i", "++-- ++-- --++ --++"},
		{"E O<E;E l(x);O l(x);O l(i);E l(i)", "+--- -+-- -++- +--+"},
		{"E;E l(x):E x;E l(i):E b;E l(x)", "+-+ +++ +-+"},
		{"E", ""}, {"E;E i", "+"},
	} {
		w := worldOf(c.world)
		rows := strings.Fields(c.rows)
		if !impl.WorldValid(w) || len(rows) != len(w.Instances) {
			t.Errorf("the world %q of this test does not fit", c.world)
			continue
		}
		for i := range rows {
			for k := range rows {
				if got := impl.IsSpecial(w, i, k); got != (rows[i][k] == '+') {
					t.Errorf("IsSpecial(%q, %d, %d) = %v", c.world, i, k, got)
				}
			}
		}
		checkSpecialOut(t, w)
	}
}

func checkSpecialOut(t *testing.T, w impl.World) {
	t.Helper()
	for _, out := range indicesThatAreOut(w) {
		for i := range w.Instances {
			if impl.IsSpecial(w, i, out) || impl.IsSpecial(w, out, i) {
				t.Errorf("IsSpecial(%q) with %d and %d = true", w, i, out)
			}
		}
		for _, other := range indicesThatAreOut(w) {
			if impl.IsSpecial(w, out, other) {
				t.Errorf("IsSpecial(%q, %d, %d) = true", w, out, other)
			}
		}
	}
}

// fixed and free change the variables of a text to letters that are no variables, and back.
func fixed(s string) string {
	return strings.NewReplacer("X", "A", "Y", "B", "Z", "C", "x", "D", "y", "E", "z", "F").Replace(s)
}

func free(s string) string {
	return strings.NewReplacer("A", "X", "B", "Y", "C", "Z", "D", "x", "E", "y", "F", "z").Replace(s)
}

// formByTexts returns what the variables of a pattern stand for if a type is of its form, as pairs of texts.
func formByTexts(pattern, s string) ([]string, bool) {
	found, ok := unifyTexts(pattern, fixed(s), variables)
	var pairs []string
	for v, to := range found {
		pairs = append(pairs, v, free(to))
	}
	return pairs, ok
}

func needsByTexts(i impl.Instance, s string) string {
	pairs, ok := formByTexts(i.Type, s)
	if !ok {
		return ""
	}
	var list []impl.Need
	for _, n := range i.Needs {
		made := strings.NewReplacer(pairs...).Replace(n.Type)
		if len(made) > 60 {
			return ""
		}
		list = append(list, impl.Need{Class: n.Class, Type: made})
	}
	return needsText(list, true)
}

// specialByTexts has at [i][k] whether an instance is special to another one.
func specialByTexts(w impl.World) [][]bool {
	special := make([][]bool, len(w.Instances))
	for i, one := range w.Instances {
		for _, other := range w.Instances {
			_, ok := formByTexts(other.Type, one.Type)
			special[i] = append(special[i], ok && one.Class == other.Class)
		}
	}
	return special
}

func choiceByTexts(w impl.World, n impl.Need) ([]int, []int) {
	var candidates, mayMatch []int
	for i, one := range w.Instances {
		if one.Class != n.Class {
			continue
		}
		if _, ok := formByTexts(one.Type, n.Type); ok {
			candidates = append(candidates, i)
		}
		if !apartByTexts(one.Type, n.Type) {
			mayMatch = append(mayMatch, i)
		}
	}
	return candidates, mayMatch
}

// mostByTexts counts to how many candidates each one is special.
func mostByTexts(special [][]bool, candidates []int) int {
	for _, i := range candidates {
		count := 0
		for _, k := range candidates {
			if special[i][k] {
				count++
			}
		}
		if count == len(candidates) {
			return i
		}
	}
	return -1
}

// someInstance returns an instance of a class of some, with needs that have its variables.
func someInstance(r *rand.Rand, classes, leaves string) impl.Instance {
	class := func() string { return classes[r.Intn(len(classes)):][:1] }
	i := impl.Instance{Need: impl.Need{Class: class(), Type: leaves[:1]}}
	for len(i.Type) == 1 && strings.Contains(variables, i.Type) {
		i.Type = someType(r, leaves, 1+r.Intn(impl.MaxHead))
	}
	own := "ib"
	for _, v := range strings.Split(variables, "") {
		if strings.Contains(i.Type, v) {
			own += v + v
		}
	}
	for range r.Intn(impl.MaxNeeds + 1) {
		i.Needs = append(i.Needs, impl.Need{Class: class(), Type: someType(r, own, 1+r.Intn(impl.MaxHead))})
	}
	return i
}

func someWorld(r *rand.Rand, leaves string) impl.World {
	w := impl.World{Classes: classesOf([]string{"E", "E O<E", "E O"}[r.Intn(3)])}
	classes := ""
	for _, c := range w.Classes {
		classes += c.Name
	}
	for range r.Intn(impl.MaxInstances + 1) {
		w.Instances = append(w.Instances, someInstance(r, classes, leaves))
	}
	return w
}

// someForm returns a type of the form of one of a world's instances, or one that may not be.
func someForm(r *rand.Rand, w impl.World, leaves string) string {
	if len(w.Instances) == 0 || r.Intn(4) == 0 {
		return someType(r, leaves, 1+r.Intn(20))
	}
	s := w.Instances[r.Intn(len(w.Instances))].Type
	var pairs []string
	for _, v := range strings.Split(variables, "") {
		pairs = append(pairs, v, someType(r, leaves, 1+r.Intn(12)))
	}
	if made := strings.NewReplacer(pairs...).Replace(s); len(made) <= 60 {
		return made
	}
	return s
}

// checkByTexts holds what the functions return for a world and a type against replacing in texts.
// It returns how many candidates the type has in the last class, and the most special one.
func checkByTexts(t *testing.T, w impl.World, special [][]bool, s string) (int, int) {
	t.Helper()
	count, most := 0, 0
	for _, c := range w.Classes {
		n := impl.Need{Class: c.Name, Type: s}
		candidates, mayMatch := choiceByTexts(w, n)
		most = mostByTexts(special, candidates)
		count = len(candidates)
		checkChoice(t, w, n, indicesText(candidates, true), indicesText(mayMatch, true), most)
	}
	for i, one := range w.Instances {
		if got, want := needsText(impl.NeedsOf(w, i, s)), needsByTexts(one, s); got != want {
			t.Errorf("NeedsOf(%q, %d, %q) = %q, want %q", w, i, s, got, want)
		}
	}
	return count, most
}

func TestChoosingInManyWorlds(t *testing.T) {
	r := rand.New(rand.NewSource(5))
	none, one := 0, 0
	for range 1500 {
		leaves := []string{"xyi", "xyXib", "xxyi", "XYZxyzib"}[r.Intn(4)]
		w := someWorld(r, leaves)
		if !impl.WorldValid(w) {
			t.Fatalf("the world %q of this test is not valid", w)
		}
		special := specialByTexts(w)
		for i := range special {
			for k := range special[i] {
				if got := impl.IsSpecial(w, i, k); got != special[i][k] {
					t.Errorf("IsSpecial(%q, %d, %d) = %v", w, i, k, got)
				}
			}
		}
		for range 8 {
			count, most := checkByTexts(t, w, special, someForm(r, w, leaves))
			if count > 1 && most < 0 {
				none++
			}
			if count > 1 && most >= 0 {
				one++
			}
		}
		if t.Failed() {
			return
		}
	}
	if none < 50 || one < 50 {
		t.Errorf("of needs with several candidates, %d have no most special one, %d have one", none, one)
	}
}

// TestChoicesOfAllShortTypes holds the definitions against each other for all short types.
func TestChoicesOfAllShortTypes(t *testing.T) {
	types := typesFrom("xyi", "l", 7)
	w := worldOf("E;E i;E l(x);E l(l(y));E p(x,y);E p(y,y);E p(i,x);E p(x,i);E p(l(x),y);E p(x,l(x))")
	special := specialByTexts(w)
	for _, s := range types {
		checkByTexts(t, w, special, s)
	}
}

func TestChoicesAreNewMemory(t *testing.T) {
	w := worldOf("E O;E l(x):E x&O x;E l(i):E i;E l(y);O i")
	for _, call := range []func() []int{
		func() []int { list, _ := impl.InstancesFor(w, "E"); return list },
		func() []int { list, _ := impl.CandidatesOf(w, needOf("E l(i)")); return list },
		func() []int { list, _ := impl.MayMatch(w, needOf("E l(i)")); return list },
	} {
		first, second := call(), call()
		for i := range first[:cap(first)] {
			first[:cap(first)][i] = -7
		}
		if !slices.Equal(second, []int{0, 1, 2}) || !slices.Equal(call(), second) {
			t.Errorf("results share memory: %v", second)
		}
	}
	for _, s := range []string{"l(i)", "l(x)"} {
		first, _ := impl.NeedsOf(w, 0, s)
		second, _ := impl.NeedsOf(w, 0, s)
		want := slices.Clone(second)
		clear(first[:cap(first)])
		if len(second) != 2 || !slices.Equal(second, want) || !sameWorld(w, worldOf("E O;E l(x):E x&O x;E l(i):E i;E l(y);O i")) {
			t.Errorf("results of NeedsOf(%q) share memory: %q, %q", s, second, w)
		}
	}
	// Without variables the needs are the instance's own, in new memory.
	list, _ := impl.NeedsOf(w, 1, "l(i)")
	clear(list[:cap(list)])
	if w.Instances[1].Needs[0] != needOf("E i") {
		t.Errorf("a result of NeedsOf shares memory with the world: %q", w)
	}
}

func TestChoosingLeavesWorldsAsTheyAre(t *testing.T) {
	for _, s := range append(worldTexts(), choosingWorld, "E;E i;E l(x):E x&E x;E l(i)", "O E", "E;E x", "E O<E;E l(x):E y", "A B C D E;A i") {
		w, same := withRoom(worldOf(s)), withRoom(worldOf(s))
		for _, text := range []string{"E l(i)", "E x", "O p(x,x)", "D p(p(i,i),p(i,i))", "A q"} {
			n := needOf(text)
			impl.NeedValid(w, n)
			impl.CandidatesOf(w, n)
			impl.MayMatch(w, n)
			impl.MostSpecial(w, n)
			impl.InstancesFor(w, n.Class)
			for i := -1; i < 11; i++ {
				impl.NeedsOf(w, i, n.Type)
				impl.IsSpecial(w, i, 0)
			}
		}
		if !reflect.DeepEqual(behind(w), behind(same)) {
			t.Errorf("the world %q became %q", s, w)
		}
	}
}
