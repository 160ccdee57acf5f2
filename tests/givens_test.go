package tests

import (
	"math/rand"
	"reflect"
	"runtime/debug"
	"slices"
	"strconv"
	"strings"
	"testing"

	"loop.example/instancesearch/impl"
)

func TestLimitOfGivens(t *testing.T) {
	if impl.MaxGivens != 6 {
		t.Error("the limit of givens is another one")
	}
}

// needsFrom reads needs from a text such as "E x&O y", "-" for none, valid or not.
func needsFrom(text string) []impl.Need {
	var list []impl.Need
	if text == "-" {
		return list
	}
	for _, s := range strings.Split(text, "&") {
		list = append(list, needOf(s))
	}
	return list
}

// checkFound holds what the functions return for a need and givens against its evidence, or why there is none.
func checkFound(t *testing.T, w impl.World, givens []impl.Need, n impl.Need, evidence, why string) {
	t.Helper()
	if got, reason := impl.FindGiven(w, givens, n); got != evidence || reason != why {
		t.Errorf("FindGiven(%.300q, %.300q, %.300q) = %q, %q, want %q, %q", w, givens, n, got, reason, evidence, why)
	}
	if got := impl.Follows(w, givens, n); got != (why == "") {
		t.Errorf("Follows(%.300q, %.300q, %.300q) = %v", w, givens, n, got)
	}
	if got := impl.CheckGiven(w, givens, n, evidence); why == "" && got != "ok" || why == "wrong" && got != "wrong" {
		t.Errorf("CheckGiven(%.300q, %.300q, %.300q, %q) = %q", w, givens, n, evidence, got)
	}
}

// An evidenced need has evidence from givens, or a reason why there is none.
type evidenced struct {
	givens, need, evidence, why string
}

func checkEvidenced(t *testing.T, world string, list []evidenced) {
	t.Helper()
	w := validWorld(t, world)
	for _, c := range list {
		givens := needsFrom(c.givens)
		if !impl.GivensValid(w, givens) {
			t.Errorf("the givens %q of this test are not valid", c.givens)
		}
		checkFound(t, w, givens, validNeed(t, w, c.need), c.evidence, c.why)
	}
}

// givenWorld has classes above others, and a type with two candidates.
const givenWorld = "E O<E S<O;E l(x):E x;O l(x):O x;E p(x,y):E x&E y;E i;S m(x):S x&E x;E l(u)"

func TestEvidenceOfGivens(t *testing.T) {
	checkEvidenced(t, givenWorld, []evidenced{
		{"O x", "E l(x)", "0(aE)", ""}, {"E x", "E x", "a", ""}, {"E x", "E l(x)", "0(a)", ""}, {"E x&E y", "E p(x,l(y))", "2(a,0(b))", ""}, {"E x&E y", "E p(y,x)", "2(b,a)", ""}, {"E y&E x", "E p(x,x)", "2(b,b)", ""},
		// The type is one with parts, or without variables.
		{"E l(x)", "E l(x)", "a", ""}, {"E l(x)", "E l(l(x))", "0(a)", ""}, {"O p(x,y)", "O l(p(x,y))", "1(a)", ""}, {"O p(x,y)", "E l(p(x,y))", "0(aE)", ""}, {"E b", "E p(b,l(b))", "2(a,0(a))", ""}, {"O l(b)", "E p(l(b),l(l(b)))", "2(aE,0(aE))", ""},
		// Each of six letters.
		{"E x&E y&E z&E X&E Y&E Z", "E p(x,p(y,p(z,p(X,p(Y,Z)))))", "2(a,2(b,2(c,2(d,2(e,f)))))", ""}, {"O x&O y&O z&O X&O Y&O Z", "E p(Z,p(Y,p(X,p(z,p(y,x)))))", "2(fE,2(eE,2(dE,2(cE,2(bE,aE)))))", ""},
		// Variables stand for types that are not known, and for no others.
		{"E x", "E y", "", "none"}, {"E x", "E X", "", "none"}, {"E x", "E b", "", "none"}, {"E x", "E i", "3", ""}, {"E l(x)", "E l(y)", "", "none"}, {"E l(x)", "E x", "", "none"}, {"E p(x,y)", "E p(y,x)", "", "none"}, {"E p(x,y)", "E x", "", "none"}, {"E l(x)", "E l(u)", "", "many"},
		// Givens that nothing asks for.
		{"E y&O z&S u", "E i", "3", ""}, {"E y&O z&S u", "E l(x)", "", "none"},
		{"E " + twice(long28), "E " + twice(long28), "a", ""}, {"S " + nested(19), "E " + nested(19), "aE", ""},
	})
}

func TestEvidenceOfGivensThatStandSeveralTimes(t *testing.T) {
	checkEvidenced(t, givenWorld, []evidenced{
		{"E x&E x", "E x", "a", ""}, {"E y&E x&E x", "E x", "b", ""}, {"E x&E x&E x&E x&E x&E x", "E l(x)", "0(a)", ""}, {"E y&E y&E y&E y&E y&E x", "E p(x,y)", "2(f,a)", ""}, {"O x&O x", "E x", "aE", ""}, {"O y&O x&O x&O y", "E p(x,y)", "2(bE,aE)", ""},
	})
}

func TestEvidenceOfClassesAbove(t *testing.T) {
	checkEvidenced(t, givenWorld, []evidenced{
		{"O x", "E x", "aE", ""}, {"S x", "O x", "aO", ""}, {"S x", "E x", "aE", ""}, {"S x", "S x", "a", ""}, {"S x", "S m(x)", "4(a,aE)", ""}, {"S x&E x", "S m(x)", "4(a,b)", ""}, {"S x&O y", "E p(l(x),l(l(y)))", "2(0(aE),0(0(bE)))", ""},
		// What is below a given does not follow from it.
		{"E x", "O x", "", "none"}, {"E x", "S x", "", "none"}, {"O x", "S x", "", "none"}, {"E x", "S m(x)", "", "none"}, {"E x&O x", "S m(x)", "", "none"},
		// Two givens of one type of which one has a class above the other.
		{"E x&O x", "E x", "a", ""}, {"O x&E x", "E x", "b", ""}, {"E x&O x", "O x", "b", ""}, {"O x&E x", "O x", "a", ""}, {"S x&O x", "O x", "b", ""}, {"O x&S x", "O x", "a", ""},
		{"S x&O x", "E x", "aE", ""}, {"O x&S x", "E x", "aE", ""}, {"S x&O x&E x", "E x", "c", ""}, {"E x&S x&O x", "E x", "a", ""}, {"E y&S x&O x", "E x", "bE", ""}, {"S x&O x&E x", "S m(x)", "4(a,c)", ""}, {"O y&S x&O x&S y", "O p(x,y)", "", "none"}, {"O y&S x&O x&S y", "E p(x,y)", "2(bE,aE)", ""},
	})
	// In other orders of classes.
	checkEvidenced(t, "A B<A C<B D<C;A l(x):A x", []evidenced{{"D x", "A x", "aA", ""}, {"D x", "B x", "aB", ""}, {"D x", "C x", "aC", ""}, {"D x&C x", "A l(x)", "0(aA)", ""}, {"B x&D x", "A x", "aA", ""}, {"B x&D x", "C x", "bC", ""}, {"B x", "C x", "", "none"}})
	checkEvidenced(t, "A B C<A D<B", []evidenced{{"C x", "A x", "aA", ""}, {"C x", "B x", "", "none"}, {"D x", "A x", "", "none"}, {"C x&D x", "B x", "bB", ""}, {"C x&D x", "D x", "b", ""}})
	checkEvidenced(t, "E O;E l(x):O x", []evidenced{{"O x", "E x", "", "none"}, {"O x", "E l(x)", "0(a)", ""}, {"E x", "E l(x)", "", "none"}})
	checkEvidenced(t, "A T<A;A l(x):A x", []evidenced{{"T Z", "A l(Z)", "0(aA)", ""}})
}

func TestNeedsThatGivensAndInstancesMeet(t *testing.T) {
	checkEvidenced(t, givenWorld, []evidenced{
		{"E i", "E i", "a", ""}, {"O i", "E i", "aE", ""}, {"E i", "E l(i)", "0(a)", ""}, {"E l(i)", "E l(i)", "a", ""}, {"E i&E l(i)", "E l(i)", "b", ""}, {"E l(i)", "E p(l(i),i)", "2(a,3)", ""}, {"E i&O l(i)", "E p(l(i),i)", "2(bE,a)", ""}, {"E p(x,y)&E x&E y", "E p(x,y)", "a", ""},
		// Or that an instance does not meet alone, for each reason.
		{"E l(u)", "E l(u)", "a", ""}, {"O l(u)", "E l(u)", "aE", ""}, {"E l(u)", "E p(l(l(u)),l(u))", "2(0(a),a)", ""}, {"E u", "E l(u)", "", "many"}, {"S m(i)", "S m(i)", "a", ""}, {"S m(i)", "E m(i)", "aE", ""},
	})
	checkEvidenced(t, "E O<E;E i:E i;E l(x):E l(x);O b:E b;E b:O b", []evidenced{
		{"-", "E i", "", "deep"}, {"E i", "E i", "a", ""}, {"E l(i)", "E l(i)", "a", ""}, {"O l(i)", "E l(i)", "aE", ""}, {"E l(i)", "E l(x)", "", "deep"}, {"-", "E b", "", "deep"}, {"O b", "E b", "aE", ""}, {"E b", "O b", "2(a)", ""},
	})
	long := "E l(" + long26 + ")"
	checkEvidenced(t, "E O<E;E l(x):E p(x,p(x,i));O m(x):E x", []evidenced{{"-", long, "", "big"}, {long, long, "a", ""}, {"O" + long[1:], long, "aE", ""}, {long, "O m(l(" + long26 + "))", "1(a)", ""}, {"E i", "O m(l(" + long26 + "))", "", "big"}})
}

func TestEvidenceWithoutGivens(t *testing.T) {
	checkEvidenced(t, givenWorld, []evidenced{
		{"-", "E i", "3", ""}, {"-", "E l(i)", "0(3)", ""}, {"-", "E p(i,l(i))", "2(3,0(3))", ""}, {"-", "E x", "", "none"}, {"-", "O i", "", "none"}, {"-", "E l(u)", "", "many"}, {"-", "E p(l(u),x)", "", "many"}, {"-", "E p(x,l(u))", "", "none"},
	})
	for _, world := range []string{givenWorld, chain, counting, choosingWorld} {
		w := validWorld(t, world)
		for _, s := range typesFrom("xiu", "lm", 7) {
			for _, c := range w.Classes {
				n := impl.Need{Class: c.Name, Type: s}
				dict, why := impl.FindDict(w, n)
				checkFound(t, w, nil, n, dict, why)
				checkFound(t, w, []impl.Need{}, n, dict, why)
			}
		}
	}
}

// weighing returns the type that has this number of needs in the class E of the world of counting, those of E i aside,
// and their evidence if E i is the given a.
func weighing(count int) (string, string) {
	if count == 0 {
		return "i", "a"
	}
	if count%2 == 0 {
		t, evidence := weighing(count - 1)
		return "m(" + t + ")", "2(" + evidence + ")"
	}
	t, evidence := weighing(count / 2)
	return "l(" + t + ")", "1(" + evidence + "," + evidence + ")"
}

func TestNeedsThatAreGivenDoNotCount(t *testing.T) {
	for _, count := range []int{0, 1, 2, 3, 200, 298, 299, 300} {
		s, evidence := weighing(count)
		checkEvidenced(t, counting, []evidenced{{"E i", "E " + s, evidence, ""}})
	}
	for _, count := range []int{301, 302, 400, 511, 600} {
		s, _ := weighing(count)
		checkEvidenced(t, counting, []evidenced{{"E i", "E " + s, "", "long"}, {"-", "E " + s, "", "long"}})
	}
	// Without the given, there are too many, or just as many as there may be.
	s, _ := weighing(200)
	checkEvidenced(t, counting, []evidenced{{"-", "E " + s, "", "long"}, {"E x", "E " + s, "", "long"}})
	_, dict := askedOf(300)
	checkEvidenced(t, counting, []evidenced{{"-", "E " + asking(300), dict, ""}, {"-", "E " + asking(301), "", "long"}})
	// What is met by a class above does not count either.
	above := strings.Replace(counting, "E N O", "E N<E O", 1)
	for _, count := range []int{299, 300, 301} {
		s, evidence := weighing(count)
		want := evidenced{"N i", "E " + s, strings.ReplaceAll(evidence, "a", "aE"), ""}
		if count > 300 {
			want.evidence, want.why = "", "long"
		}
		checkEvidenced(t, above, []evidenced{want})
	}
}

// TestReasonsWithGivens is about needs for which more than one reason may apply.
func TestReasonsWithGivens(t *testing.T) {
	// The type that is too big is a short one, since that beside it is long.
	world := strings.Replace(counting, "N p(x,p(x,x))", "N "+twice(twice("x")), 1)
	for _, c := range []struct{ inner, why string }{{"b", "none"}, {"u", "many"}, {nested(5), "big"}} {
		for count, why := range map[int]string{10: c.why, 298: c.why, 299: "long", 300: "long"} {
			s, evidence := weighing(count)
			// A need that is given is met, however many were asked for before.
			met := evidenced{"E i&N " + c.inner, "N p(" + s + "," + c.inner + ")", "3(" + evidence + ",b)", ""}
			if count == 300 {
				met.evidence, met.why = "", "long"
			}
			checkEvidenced(t, world, []evidenced{met, {"E i", met.need, "", why}})
		}
	}
	for count, why := range map[int]string{10: "deep", 268: "deep", 269: "long"} {
		s, _ := weighing(count)
		checkEvidenced(t, counting, []evidenced{{"E i", "O p(" + s + ",m(i))", "", why}})
	}
	checkEvidenced(t, "E;E l(x):E p(x,p(x,i));E l(y):E p(y,p(y,i));E p(x,y):E x&E y;E m(x):E m(x)", []evidenced{
		{"-", "E l(" + long26 + ")", "", "many"}, {"E x", "E l(x)", "", "many"},
		// The first need that fails gives the reason.
		{"E x", "E p(l(x),y)", "", "many"}, {"E x", "E p(y,l(x))", "", "none"}, {"E x", "E p(x,l(x))", "", "many"}, {"E l(x)", "E p(l(x),p(y,m(y)))", "", "none"}, {"E l(x)&E y", "E p(l(x),p(y,m(y)))", "", "deep"}, {"E l(x)&E m(y)", "E p(l(x),p(m(y),y))", "", "none"},
	})
}

func TestDepthsOfGivens(t *testing.T) {
	for _, inner := range []string{"i", "b", "u", "x", "m(" + nested(7) + ")"} {
		for _, c := range []struct {
			class byte
			count int
			depth int
			given string
			why   string
		}{
			{'C', 10, 28, "A " + inner, ""}, {'A', 10, 30, "A " + inner, ""}, {'C', 11, 31, "A " + inner, ""}, {'B', 11, 32, "A " + inner, "deep"}, {'A', 11, 33, "A " + inner, "deep"},
			{'B', 11, 31, "C l(" + inner + ")", ""}, {'A', 11, 31, "B l(" + inner + ")", ""}, {'C', 12, 31, "A l(" + inner + ")", ""}, {'C', 12, 34, "A " + inner, "deep"},
		} {
			list := chainNeeds(c.class, c.count, inner)
			evidence := ""
			if c.why == "" {
				met := chainDict(list[:c.depth+1])
				evidence = strings.Replace(met, "0", "a", 1)
			}
			if list[c.depth] != c.given {
				t.Fatalf("the need at the depth %d of this test is %q", c.depth, list[c.depth])
			}
			if len(list[0]) <= len("E ")+impl.MaxType {
				checkEvidenced(t, chain, []evidenced{{c.given, list[0], evidence, c.why}})
			}
		}
	}
	// By a class above.
	above := strings.Replace(chain, "A B C", "A B<A C", 1)
	list := chainNeeds('C', 11, "b")
	checkEvidenced(t, above, []evidenced{{"B b", list[0], strings.Replace(chainDict(list), "0", "aA", 1), ""}, {"B b", chainNeeds('B', 11, "b")[0], "", "deep"}, {"C b", list[0], "", "deep"}})
}

func checkNoGivens(t *testing.T, w impl.World, givens []impl.Need) {
	t.Helper()
	if impl.GivensValid(w, givens) {
		t.Errorf("GivensValid(%.300q, %.300q) = true", w, givens)
	}
	for _, s := range []string{"E i", "E x", "O x", "E l(x)", "A q", ""} {
		checkFound(t, w, givens, needOf(s), "", "wrong")
		for _, text := range []string{"a", "0", "3", "aE", "g", "x"} {
			if got := impl.CheckGiven(w, givens, needOf(s), text); got != "wrong" {
				t.Errorf("CheckGiven(%.300q, %.300q, %q, %q) = %q", w, givens, s, text, got)
			}
		}
	}
	if got := needsText(impl.AllGivens(w, givens)); got != "" {
		t.Errorf("AllGivens(%.300q, %.300q) = %q", w, givens, got)
	}
	if got := needsText(impl.LeastGivens(w, givens)); got != "" {
		t.Errorf("LeastGivens(%.300q, %.300q) = %q", w, givens, got)
	}
}

func TestGivensValid(t *testing.T) {
	w := validWorld(t, givenWorld)
	for _, s := range []string{"-", "E x", "E l(x)&O i&S p(X,p(Y,Z))", "S x&S x", "O " + twice(long28), "E " + nested(19) + "&E i"} {
		if !impl.GivensValid(w, needsFrom(s)) {
			t.Errorf("GivensValid(%q) = false", s)
		}
	}
	for count := range 7 {
		if !impl.GivensValid(w, slices.Repeat(needsFrom("E x"), count)) || !impl.GivensValid(validWorld(t, "E"), needsFrom("E x&E y&E z&E X&E Y&E Z")[:count]) {
			t.Errorf("%d givens are not valid", count)
		}
	}
	for _, count := range []int{7, 8, 100000} {
		checkNoGivens(t, w, slices.Repeat(needsFrom("E x"), count))
		checkNoGivens(t, w, make([]impl.Need, count))
	}
	checkNoGivens(t, w, needsFrom("E x&E y&E z&E X&E Y&E Z&O x"))
	for _, other := range worldsThatAreNotValid() {
		for _, s := range []string{"-", "E x", "E i&E l(i)", "A x"} {
			checkNoGivens(t, other, needsFrom(s))
		}
	}
}

func TestGivensThatAreNotValid(t *testing.T) {
	w := validWorld(t, givenWorld)
	wrong := []impl.Need{{}, {Class: "E"}, {Type: "i"}, {Class: "E", Type: "l(" + twice(long28) + ")"}}
	for _, class := range []string{"A", "T", "Z", "e", "EO", "E ", " E", "\xff"} {
		wrong = append(wrong, impl.Need{Class: class, Type: "x"})
	}
	for _, s := range textsThatAreNoTypes() {
		wrong = append(wrong, impl.Need{Class: "E", Type: s})
	}
	for _, n := range wrong {
		for place := range 6 {
			list := needsFrom("E x&E i&O x&S y&E l(x)&E x")
			list[place] = n
			checkNoGivens(t, w, list)
		}
		checkNoGivens(t, w, []impl.Need{n})
		// It is the need that is not valid, also if it is wrong in the same way as a given, or there are none.
		for _, s := range []string{"-", "E x", "E x&E y&E z&E X&E Y&E Z"} {
			checkFound(t, w, needsFrom(s), n, "", "wrong")
		}
		for _, text := range []string{"", "a", "0(a)", "3", "x"} {
			if got := impl.CheckGiven(w, needsFrom("E x"), n, text); got != "wrong" {
				t.Errorf("CheckGiven(%.300q, %q) = %q", n, text, got)
			}
		}
		if got := needsText(impl.ReduceNeed(w, n)); got != "" {
			t.Errorf("ReduceNeed(%.300q) = %q", n, got)
		}
	}
}

func TestAllGivens(t *testing.T) {
	check := func(world string, pairs ...string) {
		t.Helper()
		for k := 0; k < len(pairs); k += 2 {
			if got := needsText(impl.AllGivens(validWorld(t, world), needsFrom(pairs[k]))); got != pairs[k+1] {
				t.Errorf("AllGivens(%q, %q) = %q, want %q", world, pairs[k], got, pairs[k+1])
			}
		}
	}
	check(givenWorld,
		"-", "-", "E x", "E x", "O x", "O x&E x", "S x", "S x&E x&O x", "E i", "E i", "S l(Z)", "S l(Z)&E l(Z)&O l(Z)",
		"S x&E x&O y", "S x&E x&O x&O y&E y", "E x&S x", "E x&S x&O x", "O x&S x", "O x&E x&S x", "S x&O x", "S x&E x&O x", "E x&O x&S x", "E x&O x&S x", "O y&O x", "O y&E y&O x&E x",
		"S x&S x", "S x&E x&O x", "E x&E x&E x&E x&E x&E x", "E x", "O x&E y&O x&O y", "O x&E x&E y&O y", "O l(x)&O x", "O l(x)&E l(x)&O x&E x",
		"S x&S y&S z&S X&S Y&S Z", "S x&E x&O x&S y&E y&O y&S z&E z&O z&S X&E X&O X&S Y&E Y&O Y&S Z&E Z&O Z",
	)
	check("A B<A C<B D<C", "D x", "D x&A x&B x&C x", "B x&D x&C x&A x", "B x&A x&D x&C x", "A x&B x&C x&D x", "A x&B x&C x&D x")
	check("A B C<A D<BC", "D i", "D i&A i&B i&C i", "C i&B i", "C i&A i&B i")
	check("E O;E i;O i", "O i&E i", "O i&E i")
}

// checkTexts holds CheckGiven of texts for a need and givens against answers.
func checkTexts(t *testing.T, world, givens, need string, pairs ...string) {
	t.Helper()
	w := validWorld(t, world)
	for k := 0; k < len(pairs); k += 2 {
		if got := impl.CheckGiven(w, needsFrom(givens), validNeed(t, w, need), pairs[k]); got != pairs[k+1] {
			t.Errorf("CheckGiven(%q, %q, %q, %.300q) = %q, want %q", world, givens, need, pairs[k], got, pairs[k+1])
		}
	}
}

func TestTextsOfEvidence(t *testing.T) {
	checkTexts(t, givenWorld, "O x&S y&E x", "E l(x)",
		// Any given that is the need will do.
		"0(aE)", "ok", "0(c)", "ok",
		"0(a)", "given", "0(b)", "given", "0(bE)", "given", "0(d)", "given", "0(e)", "given", "0(f)", "given", "0(dE)", "given", "0(aO)", "given", "0(aS)", "given", "0(aA)", "given", "0(aT)", "given", "0(cE)", "given", "0(cO)", "given", "0(aEE)", "parts", "0(aEO)", "parts", "0(aU)", "given", "0(ae)", "given",
		"a", "given", "aE", "given", "c", "given", "d", "given", "f", "given", "fE", "given", "c)", "given",
		"", "instance", "g", "instance", "A", "instance", "E", "instance", "x", "instance", "(", "instance", ")", "instance", ",", "instance", "-", "instance", "-0", "instance", " 0(c)", "instance", "(c)", "instance", "\x00", "instance", "\xff", "instance", "/", "instance", ":", "instance", "`", "instance",
		"1(c)", "instance", "1", "instance", "2(c,c)", "instance", "3", "instance", "4", "instance", "5", "instance", "6", "instance", "9", "instance", "0(", "instance", "0()", "instance", "0((c))", "instance", "0(0(c))", "instance", "0(3)", "instance", "0(g)", "instance", "0(E)", "instance", "0( c)", "instance", "0(,c)", "instance", "0(\xff)", "instance",
		"0", "parts", "0c", "parts", "0,c", "parts", "0)", "parts", "0[c]", "parts", "0 (c)", "parts", "00", "parts", "0\x00", "parts", "0(c", "parts", "0(aE", "parts", "0(c,", "parts", "0(c,c)", "parts", "0(cU)", "parts", "0(c )", "parts", "0(cc)", "parts", "0(c(", "parts", "0(c]", "parts", "0(c\xff", "parts",
		"0(c))", "rest", "0(c)c", "rest", "0(c) ", "rest", "0(c)0", "rest", "0(c),", "rest", "0(c)(", "rest", "0(c)\x00", "rest", "0(c)"+strings.Repeat("0(c)", 1000), "rest",
	)
	checkTexts(t, givenWorld, "E x&E y", "E p(x,l(y))",
		"2(a,0(b))", "ok", "2(b,0(b))", "given", "2(a,0(a))", "given", "2(a,b)", "given", "2(c,3)", "given", "2(3,c)", "instance", "2(a,3)", "instance", "2(a,1(b))", "instance", "2(a,)", "instance", "2(,0(b))", "instance", "2(,)", "instance", "2(a,0())", "instance",
		"2", "parts", "2(a", "parts", "2(a)", "parts", "2(a,0", "parts", "2(a,0)", "parts", "2(a;0(b))", "parts", "2(a0(b))", "parts", "2(a(0(b))", "parts", "2(a,0(b", "parts", "2(a,0(b)", "parts", "2(a,0(b),", "parts", "2(a,0(b),b)", "parts", "2(a,0(b,b))", "parts", "2(a,0[b))", "parts", "2,a,0(b))", "parts",
		"2(a,0(b)))", "rest", "2(a,0(b))2(a,0(b))", "rest", "2(a,0(b)) ", "rest",
	)
	// Needs that come from an instance without needs, or from a given at once.
	checkTexts(t, givenWorld, "E x&O i&O x", "E i", "3", "ok", "bE", "ok", "b", "given", "a", "given", "3)", "rest", "3(", "rest", "3()", "rest", "3(a)", "rest", "3,3", "rest", "33", "rest", "bE(", "rest", "bEE", "rest", "bE)", "rest", "", "instance", "0", "instance", "5", "instance")
	checkTexts(t, givenWorld, "E x&O i&O x", "E x", "a", "ok", "cE", "ok", "c", "given", "aE", "given", "bE", "given", "aa", "rest", "a0", "rest", "a)", "rest", "aZ", "rest", "aU", "rest", "a@", "rest", "ae", "rest", "a ", "rest", "cE1", "rest", "3", "instance")
	checkTexts(t, givenWorld, "-", "E i", "3", "ok", "a", "given", "f", "given", "g", "instance", "aE", "given", "33", "rest")
	// An instance that is one of two candidates, though a search would not take it.
	checkTexts(t, givenWorld, "E l(u)&E u", "E l(u)", "5", "ok", "a", "ok", "0(b)", "ok", "b", "given", "5(", "rest", "0(a)", "given", "0(5)", "instance")
	// Classes two steps above, and all six givens.
	checkTexts(t, "A B<A C<B T<C", "T x", "A x", "aA", "ok", "aB", "given", "aC", "given", "aT", "given", "a", "given", "aAA", "rest")
	checkTexts(t, "E O<E;E i", "E x&O y&E z&O X&E Y&O Z", "E Z", "fE", "ok", "f", "given", "bE", "given", "dE", "given", "e", "given", "fO", "given", "g", "instance")
	checkTexts(t, "E O<E;E i", "E x&E x&O x&E x", "E x", "a", "ok", "b", "ok", "cE", "ok", "d", "ok", "e", "given")
	// All bytes behind a letter: those of classes belong to it.
	for b := range 256 {
		answer := "rest"
		if 'A' <= b && b <= 'T' {
			answer = "given"
		}
		checkTexts(t, "E O<E", "E x&O x", "E x", "a"+string([]byte{byte(b)}), answer)
	}
}

func TestTextsOfEvidenceOfBigNeeds(t *testing.T) {
	world, long := "E O<E;E l(x):E b&E p(x,p(x,i));E b;O m(x):O x&E x;O l(x):O b&O p(x,p(x,i));E p(x,y);O b", "l("+long26+")"
	checkTexts(t, world, "E b&O x", "E "+long, "0", "big", "0(", "big", "0(1,4)", "big", "0(c", "big", "0)", "big", "1", "instance", "3", "instance", "4", "instance", "a", "given", "c", "given", "", "instance")
	checkTexts(t, world, "E b&O x&O "+long, "E "+long, "cE", "ok", "0", "big", "c", "given", "cE0", "rest")
	checkTexts(t, world, "E b&O x&E "+long, "O m("+long+")", "2", "parts", "2(3", "big", "2(3,c)", "big", "2(c,c)", "given", "2(0,c)", "instance", "2(,c)", "instance")
	checkTexts(t, world, "O "+long+"&O x&E "+long, "O m("+long+")", "2(a,c)", "ok", "2(a,aE)", "ok", "2(3,c)", "big", "2(a,0(1,4))", "big", "2(a,4", "instance", "2(a,a)", "given", "2(a,c))", "rest")
	// A need of 60 bytes is not.
	checkTexts(t, "E;E l(x):E p(x,x);E p(x,y)", "-", "E l("+long28+")", "0(1)", "ok", "0", "parts", "0(1))", "rest")
	// Whatever type is too long, it is what is wrong before any need is read.
	checkTexts(t, "E;E l(x):E x&E p(x,p(x,i))", "E "+long26, "E "+long, "0(a,b)", "big", "0(b", "big", "0", "big")
}

func TestEvidenceThatIsLong(t *testing.T) {
	w := validWorld(t, "E O<E;E l(x):E x&E x&E x;E p(x,y):E x&E y")
	evidence := "aE"
	for range 5 {
		evidence = "0(" + evidence + "," + evidence + "," + evidence + ")"
	}
	checkFound(t, w, needsFrom("O i"), needOf("E "+nested(5)), evidence, "")
	evidence = "1(" + evidence + "," + evidence + ")"
	if len(evidence) < 2000 {
		t.Errorf("the evidence of this test has %d bytes", len(evidence))
	}
	checkFound(t, w, needsFrom("O i"), needOf("E p("+nested(5)+","+nested(5)+")"), evidence, "")
	if got := impl.CheckDict(w, needOf("E p("+nested(5)+","+nested(5)+")"), evidence); got != "wrong" {
		t.Errorf("CheckDict = %q", got)
	}
	// Dictionaries of 1200 bytes, and of more.
	for count := 395; count < 405; count++ {
		d := strings.Repeat("0(", count) + "2(1)" + strings.Repeat(")", count)
		checkTexts(t, "E O;E l(x):E l(x);O i;E l(x):O x", "-", "E l(i)", d, "ok", d+")", "rest", d[1:], "instance", d[:len(d)-1], "parts")
	}
	for _, count := range []int{1, 300, 400, 401, 5000} {
		checkTexts(t, "E;E l(x):E l(x)&E x;E i", "E l(i)", "E l(i)", strings.Repeat("0(", count)+"a"+strings.Repeat(",1)", count), "ok", strings.Repeat("0(", count)+"a"+strings.Repeat(",1)", count-1), "parts", strings.Repeat("0(", count)+"a"+strings.Repeat(",1)", count)+")", "rest")
	}
}

// TestEvidenceThatIsDeep has texts that are read without much of the stack for calls.
func TestEvidenceThatIsDeep(t *testing.T) {
	defer debug.SetMaxStack(debug.SetMaxStack(4 << 20))
	count := 200000
	open, end := strings.Repeat("0(", count), strings.Repeat(")", count)
	checkTexts(t, "E O<E;E l(x):E l(x)", "O l(x)", "E l(x)", open+"aE"+end, "ok", open+"aE"+end+")", "rest", open+"aE"+end[1:], "parts", open+"a"+end, "given", open, "instance", open+end, "instance", open[1:], "instance")
	checkTexts(t, "E O;E l(x):O l(x);O l(x):O p(x,x)&E l(x);O p(x,y)", "-", "E l(i)", strings.Repeat("0(1(2,", count), "instance", strings.Repeat("0(1(2,", count)+"3", "instance", strings.Repeat("0(1(2,", count)+"0", "parts")
	checkTexts(t, givenWorld, "E x", "E l(x)", strings.Repeat("0(", count), "instance", strings.Repeat("(", count), "instance", "0(a"+strings.Repeat(")", count), "rest", "0(a"+strings.Repeat("E", count), "given")
}

func checkReduced(t *testing.T, world string, pairs ...string) {
	t.Helper()
	w := validWorld(t, world)
	for k := 0; k < len(pairs); k += 2 {
		if got := needsText(impl.ReduceNeed(w, validNeed(t, w, pairs[k]))); got != pairs[k+1] {
			t.Errorf("ReduceNeed(%q, %q) = %q, want %q", world, pairs[k], got, pairs[k+1])
		}
	}
}

func TestNeedsThatComeDown(t *testing.T) {
	checkReduced(t, givenWorld,
		"E x", "E x", "S Z", "S Z", "E l(x)", "E x", "E l(l(l(Y)))", "E Y", "O l(l(Y))", "O Y", "S m(x)", "S x&E x", "E p(x,y)", "E x&E y", "E p(y,x)", "E y&E x", "E p(x,l(y))", "E x&E y", "E l(p(l(z),x))", "E z&E x", "E p(p(X,Y),p(Z,p(x,p(y,z))))", "E X&E Y&E Z&E x&E y&E z",
		// To none.
		"E i", "-", "E l(i)", "-", "E p(i,l(p(i,i)))", "-", "E p(i,x)", "E x", "E p(x,i)", "E x",
		// To the same one twice.
		"E p(x,x)", "E x", "E p(x,p(y,x))", "E x&E y", "E p(p(x,y),p(y,z))", "E x&E y&E z", "E p(p(y,x),p(x,y))", "E y&E x",
		// Some need has no candidates, or several.
		"E b", "", "O i", "", "E m(x)", "", "S m(i)", "", "S m(m(x))", "", "E l(b)", "", "E p(x,b)", "", "E p(b,x)", "", "S l(x)", "", "E u", "", "E l(u)", "", "E l(l(u))", "", "E p(x,l(u))", "", "E p(l(u),x)", "", "E p(x,p(x,l(u)))", "",
	)
	// Needs of other classes, in the order in which they come, and of types that an instance names itself.
	checkReduced(t, "E O S<O;E p(x,y):O y&S x&E x;O l(x):S x&E x&S x;S l(x):E p(x,x);S m(x):E b&S l(x);E b;S i:O u&O u;O u;E m(x):O m(x);O m(x)",
		"E p(x,y)", "O y&S x&E x", "E p(x,x)", "O x&S x&E x", "E p(x,l(y))", "S y&E y&S x&E x", "E p(l(x),l(x))", "", "O l(z)", "S z&E z", "O l(l(x))", "", "S l(Y)", "O Y&S Y&E Y", "S m(x)", "O x&S x&E x", "S l(l(x))", "", "S i", "-", "O u", "-", "E m(x)", "-", "E m(u)", "-", "O b", "", "S m(i)", "",
	)
}

func TestNeedsThatComeDownToBigOnes(t *testing.T) {
	world := "E O;E l(x):E p(x,p(x,i));E p(x,y):O x;E m(x):E x&E p(x,x)&E x;O l(x):O x"
	open, closed := "l("+strings.ReplaceAll(long26, "i", "x")+")", "l("+long26+")"
	checkReduced(t, world, "E "+open, "", "E "+closed, "", "E p(x,"+open+")", "O x", "E m("+open+")", "", "E m(l(x))", "O x", "E l(x)", "O x")
	// A type of 60 bytes is not too long.
	checkReduced(t, "E O;E l(x):E p(x,x);E p(x,y):O x;O l(x):O x;O p(x,y):O y;O i", "E l("+long28+")", "-")
	checkReduced(t, "E;E l(x):E l(l(x))", "E l(x)", "", "E x", "E x")
}

func TestDepthsOfNeedsThatComeDown(t *testing.T) {
	for _, c := range []struct {
		class byte
		count int
		// The needs to which it comes down, if these are of i or of x.
		closed, open string
	}{
		{'A', 1, "-", "A x"}, {'C', 10, "-", "A x"}, {'B', 10, "-", "A x"}, {'A', 10, "-", "A x"},
		// A variable may lie deeper than other types.
		{'C', 11, "", "A x"}, {'B', 11, "", ""}, {'A', 11, "", ""}, {'C', 12, "", ""}, {'A', 19, "", ""},
	} {
		checkReduced(t, chain, chainNeeds(c.class, c.count, "i")[0], c.closed, chainNeeds(c.class, c.count, "x")[0], c.open, chainNeeds(c.class, c.count, "b")[0], "", chainNeeds(c.class, c.count, "u")[0], "")
	}
	checkReduced(t, "E O;E i:E i;E l(x):E l(x)&E x;E b:O b;O b:E b;E m(x):E x&E m(x)", "E i", "", "E l(x)", "", "E b", "", "O b", "", "E m(x)", "", "E x", "E x")
}

func TestNumbersOfNeedsThatComeDown(t *testing.T) {
	for _, count := range []int{1, 2, 255, 299, 300} {
		checkReduced(t, counting, "E "+asking(count), "-")
	}
	for _, count := range []int{301, 302, 303, 350, 511, 600, 1023} {
		checkReduced(t, counting, "E "+asking(count), "")
	}
	// Needs of variables do not count, however often they come.
	open := func(count int) string {
		s, _ := weighing(count)
		return strings.ReplaceAll(s, "i", "x")
	}
	for _, count := range []int{0, 1, 2, 200, 255, 299, 300} {
		checkReduced(t, counting, "E "+open(count), "E x")
	}
	for _, count := range []int{301, 302, 350, 511, 600} {
		checkReduced(t, counting, "E "+open(count), "")
	}
	// Behind as many as there may be, there may be one of a variable, but no other one.
	for count, want := range map[int]string{297: "E x", 298: "E x", 299: "", 300: ""} {
		checkReduced(t, counting+";N b", "N p("+open(count)+",b)", want)
	}
	for count, want := range map[int]string{297: "E x&N y", 298: "E x&N y", 299: "E x&N y", 300: ""} {
		checkReduced(t, counting, "N p("+open(count)+",y)", want)
	}
}

func TestReducedNeedsOfWhatIsNotValid(t *testing.T) {
	for _, w := range worldsThatAreNotValid() {
		for _, s := range []string{"E i", "E x", "E l(i)", "E l(x)", "O x", "A x", "E ", " x", ""} {
			if got := needsText(impl.ReduceNeed(w, needOf(s))); got != "" {
				t.Errorf("ReduceNeed(%.300q, %q) = %q", w, s, got)
			}
		}
	}
	for _, class := range []string{"", "A", "Z", "e", "EO", "E ", "\xff"} {
		if got := needsText(impl.ReduceNeed(worldOf(givenWorld), impl.Need{Class: class, Type: "x"})); got != "" {
			t.Errorf("ReduceNeed of the class %q = %q", class, got)
		}
	}
}

func checkLeast(t *testing.T, world string, pairs ...string) {
	t.Helper()
	for k := 0; k < len(pairs); k += 2 {
		if got := needsText(impl.LeastGivens(validWorld(t, world), needsFrom(pairs[k]))); got != pairs[k+1] {
			t.Errorf("LeastGivens(%q, %q) = %q, want %q", world, pairs[k], got, pairs[k+1])
		}
	}
}

func TestLeastGivens(t *testing.T) {
	checkLeast(t, givenWorld,
		"-", "-", "E x", "E x", "E x&E y", "E x&E y", "E x&S x&E l(x)&E y", "S x&E y",
		// They follow from earlier ones and from later ones.
		"E x&E l(x)", "E x", "E l(x)&E x", "E x", "O x&E x", "O x", "E x&O x", "O x", "S x&O x&E x", "S x", "E x&O x&S x", "S x", "O x&S x&E x", "S x", "E p(x,y)&E x&E y", "E x&E y", "E x&E p(x,y)&E y", "E x&E y", "E x&E y&E p(x,y)", "E x&E y",
		"E p(x,y)&E x", "E p(x,y)&E x", "E l(l(x))&E l(x)&E x", "E x", "E l(l(x))&O x", "O x", "E l(l(x))&E l(x)", "E l(x)", "E l(x)&E l(l(x))", "E l(x)", "S m(x)&S x", "S x", "S x&S m(x)", "S x", "S m(x)&E x", "S m(x)&E x",
		// Several times.
		"E x&E x", "E x", "E x&E x&E x&E x&E x&E x", "E x", "O x&O x&E x&E x", "O x", "E x&E y&E x&E y", "E x&E y", "E y&E x&E y", "E y&E x",
		// From none at all.
		"E i", "-", "E i&E l(i)", "-", "E l(i)&E x&E i", "E x", "E i&E i", "-", "O i", "O i", "O i&E i", "O i",
		// A type with several candidates.
		"E l(u)", "E l(u)", "E l(u)&E u", "E l(u)&E u", "E l(u)&E l(u)", "E l(u)", "E l(l(u))&E l(u)", "E l(u)", "O l(u)&E l(u)", "O l(u)",
		// Six.
		"S x&O y&E x&O x&E y&S x", "S x&O y", "E z&E y&E x&O z&O y&O x", "O z&O y&O x", "E X&E Y&E Z&E x&E y&E z", "E X&E Y&E Z&E x&E y&E z", "E l(l(l(l(l(x)))))&E l(l(l(l(x))))&E l(l(l(x)))&E l(l(x))&E l(x)&E x", "E x",
	)
	// Of those that follow from each other, the first one is left.
	checkLeast(t, "E O;E b:O b;O b:E b", "E b&O b", "E b", "O b&E b", "O b", "E b&O b&E b&O b", "E b", "E b", "E b", "E x&O x", "E x&O x")
	checkLeast(t, "E O S;E i:O i;O i:S i;S i:E i", "E i&O i&S i", "E i", "O i&S i&E i", "O i", "S i&E i&O i", "S i", "S i&O i", "S i")
	// What follows from two others does not if one of these was taken out before.
	checkLeast(t, "E;E i:E b&E u;E b:E i&E u;E u:E i&E b", "E i&E b&E u", "E i&E b", "E u&E b&E i", "E u&E b", "E b", "E b")
	checkLeast(t, "E O<E;E l(x):O x", "E x&O x&E l(x)", "O x", "O x&E l(x)&E x", "O x", "E x&E l(x)", "E x&E l(x)", "E l(x)&O x", "O x")
}

// needsTexts has texts of needs and, for others, which are no such texts.
func textsOfNeeds() ([]string, []string) {
	many := strings.Repeat("E i&", 1000) + "E i"
	return []string{
		"-", "E i", "E x", "E x&O y", "O y&E x", "E x&E x", "A i&T Z&E l(x)&S p(x,p(y,Z))&E i&E b&E u", "E " + twice(long28) + "&E " + twice(long28), "E " + head21 + "&E i", "E " + nested(19), many,
	}, []string{
		"", " ", "&", "&&", "- ", " -", "--", "-&-", "-&", "&-", "E x&-", "-&E x", "E x&-&E y", "E x&", "&E x", "E x&&E y", "E x& ", " &E x", "E x&E y&", "E", "E ", "E x&E", "E x&E ", "E x& x", "E&E x", "E &E x", " x&E x",
		"E x E y", "E x,E y", "E x;E y", "E x:E y", "E:E x", "E x:", "E x;", "E x& E y", "E x &E y", " E x", "E x ", "E  x", "e x", "U x", "E x&U x", "E x&EO x", "E q", "E x&E q", "E q&E x", "E x&E l(x", "E " + nested(20), "E x&E l(" + twice(long28) + ")", many + "&", many + "&E q", "&" + many, many + "&-",
		strings.Repeat("&", 100000), "\x00", "E x\x00", "E\xffx", "E x\xffE y",
	}
}

func TestTextsOfNeeds(t *testing.T) {
	right, wrong := textsOfNeeds()
	for _, s := range right {
		list, ok := impl.ParseNeeds(s)
		if !ok || !slices.Equal(list, needsFrom(s)) || impl.FormatNeeds(needsFrom(s)) != s {
			t.Errorf("ParseNeeds(%.300q) = %.300q, %v", s, list, ok)
		}
	}
	for _, s := range wrong {
		if list, ok := impl.ParseNeeds(s); ok || len(list) != 0 {
			t.Errorf("ParseNeeds(%.300q) = %.300q, %v", s, list, ok)
		}
	}
	if impl.FormatNeeds(nil) != "-" || impl.FormatNeeds([]impl.Need{}) != "-" {
		t.Error("the text of no needs is another one")
	}
	// Needs that are not valid.
	for want, list := range map[string][]impl.Need{
		" ": {{}}, " & ": {{}, {}}, "E ": {{Class: "E"}}, " i& x": {{Type: "i"}, {Type: "x"}}, "- -": {{Class: "-", Type: "-"}}, "& &&E x": {{Class: "&", Type: "&"}, needOf("E x")}, "EO l(": {{Class: "EO", Type: "l("}}, "\xff \x00&Z q": {{Class: "\xff", Type: "\x00"}, needOf("Z q")},
	} {
		if got := impl.FormatNeeds(list); got != want {
			t.Errorf("FormatNeeds(%q) = %q, want %q", list, got, want)
		}
	}
}

// checkNeedsText holds ParseNeeds against ParseNeed of all that stands between marks.
func checkNeedsText(t *testing.T, s string) bool {
	t.Helper()
	want, valid := []impl.Need{}, true
	for _, part := range strings.Split(s, "&") {
		n, ok := impl.ParseNeed(part)
		want, valid = append(want, n), valid && ok
	}
	if !valid {
		want = nil
	}
	list, ok := impl.ParseNeeds(s)
	if ok != (valid || s == "-") || !slices.Equal(list, want) || ok && impl.FormatNeeds(list) != s {
		t.Errorf("ParseNeeds(%q) = %q, %v, want %q", s, list, ok, want)
	}
	return ok
}

func TestAllShortTextsOfNeeds(t *testing.T) {
	found := 0
	for length, texts := 0, []string{""}; length <= 7; length++ {
		var longer []string
		for _, s := range texts {
			if checkNeedsText(t, s) {
				found++
			}
			for _, c := range "E i&-" {
				longer = append(longer, s+string(c))
			}
		}
		texts = longer
	}
	if found != 3 {
		t.Errorf("%d texts are those of needs", found)
	}
	r := rand.New(rand.NewSource(20))
	right, wrong := textsOfNeeds()
	for range 20000 {
		s := changed(r, someOf(r, append(right[:8], wrong[:40]...)...))
		checkNeedsText(t, s)
	}
}

// letterByTexts returns the evidence of a need that a given meets, the empty text if none does.
func letterByTexts(w impl.World, givens []impl.Need, n impl.Need) string {
	for k, g := range givens {
		if impl.FormatNeed(g) == impl.FormatNeed(n) {
			return "abcdef"[k : k+1]
		}
	}
	for k, g := range givens {
		if g.Type == n.Type && strings.Contains(reached(w.Classes, g.Class), n.Class) {
			return "abcdef"[k:k+1] + n.Class
		}
	}
	return ""
}

// noChoice is for searches of needs that must have one candidate.
func noChoice([]int) int { return -1 }

// givenByTexts keeps one list of all needs that are still to be asked for, as searchByTexts does.
func givenByTexts(w impl.World, givens []impl.Need, n impl.Need) (string, string) {
	var marks []string
	var counts []int
	before := 0
	for todo := []pending{{need: n}}; len(todo) > 0; {
		p := todo[0]
		mark := letterByTexts(w, givens, p.need)
		var needs []impl.Need
		if mark == "" {
			i, own, why := stepByTexts(w, p, before, noChoice)
			if why != "" {
				return "", why
			}
			mark, needs, before = strconv.Itoa(i), own, before+1
		}
		marks, counts = append(marks, mark), append(counts, len(needs))
		todo = append(p.below(needs), todo[1:]...)
	}
	return dictFrom(marks, counts), ""
}

func leastByTexts(w impl.World, givens []impl.Need) string {
	left := slices.Clone(givens)
	for k := len(givens) - 1; k >= 0; k-- {
		others := slices.Concat(left[:k], left[k+1:])
		if _, why := givenByTexts(w, others, givens[k]); why == "" {
			left = others
		}
	}
	return needsText(left, true)
}

func reducedByTexts(w impl.World, n impl.Need) string {
	var list []impl.Need
	before := 0
	for todo := []pending{{need: n}}; len(todo) > 0; {
		p := todo[0]
		todo = todo[1:]
		if strings.Contains(variables, p.need.Type) {
			if !slices.Contains(list, p.need) {
				list = append(list, p.need)
			}
			continue
		}
		_, needs, why := stepByTexts(w, p, before, noChoice)
		if why != "" {
			return ""
		}
		before++
		todo = append(p.below(needs), todo...)
	}
	return needsText(list, true)
}

// cutFirst returns the first byte of a text if it is one of some, and what is behind it.
func cutFirst(s, letters string) (string, string) {
	if s != "" && strings.Contains(letters, s[:1]) {
		return s[:1], s[1:]
	}
	return "", s
}

// readByTexts returns what is behind the evidence of a need, and what is wrong with this.
func readByTexts(w impl.World, givens []impl.Need, n impl.Need, s string) (string, string) {
	if letter, rest := cutFirst(s, "abcdef"); letter != "" {
		k := strings.Index("abcdef", letter)
		class, rest := cutFirst(rest, "ABCDEFGHIJKLMNOPQRST")
		if k >= len(givens) || class != "" && !strings.Contains(reached(w.Classes, givens[k].Class), class) {
			return rest, "given"
		}
		if class == "" {
			class = givens[k].Class
		}
		if class+" "+givens[k].Type != impl.FormatNeed(n) {
			return rest, "given"
		}
		return rest, "ok"
	}
	digit, rest := cutFirst(s, "0123456789")
	candidates, _ := choiceByTexts(w, n)
	if digit == "" || !slices.ContainsFunc(candidates, func(i int) bool { return strconv.Itoa(i) == digit }) {
		return rest, "instance"
	}
	k, _ := strconv.Atoi(digit)
	text := needsByTexts(w.Instances[k], n.Type)
	if text == "" {
		return rest, "big"
	}
	list := needsFrom(text)
	for k, need := range list {
		mark := ""
		if mark, rest = cutFirst(rest, string("(,"[min(k, 1)])); mark == "" {
			return rest, "parts"
		}
		wrong := ""
		if rest, wrong = readByTexts(w, givens, need, rest); wrong != "ok" {
			return rest, wrong
		}
	}
	if len(list) == 0 {
		return rest, "ok"
	}
	if mark, rest := cutFirst(rest, ")"); mark != "" {
		return rest, "ok"
	}
	return rest, "parts"
}

func checkTextByTexts(t *testing.T, w impl.World, givens []impl.Need, n impl.Need, s string) string {
	t.Helper()
	rest, want := readByTexts(w, givens, n, s)
	if want == "ok" && rest != "" {
		want = "rest"
	}
	if got := impl.CheckGiven(w, givens, n, s); got != want {
		t.Errorf("CheckGiven(%q, %q, %q, %q) = %q, want %q", impl.FormatWorld(w), givens, n, s, got, want)
	}
	return want
}

// aboveWorld returns a world in which classes may be above others.
func aboveWorld(r *rand.Rand) impl.World {
	w := []func(r *rand.Rand) impl.World{searchedWorld, fullWorld, fullWorld, func(r *rand.Rand) impl.World { return someWorld(r, "xyib") }}[r.Intn(4)](r)
	w.Classes = classesOf(someOf(r, "E O<E S", "E O<E S<O", "E O S<EO", "E O<E S<E T<S"))
	for k := range w.Instances {
		if r.Intn(20) == 0 {
			w.Instances[k].Class = w.Classes[r.Intn(len(w.Classes))].Name
		}
	}
	return w
}

// someGivens returns givens of which many are asked for because of a need, or have one of these above them.
func someGivens(r *rand.Rand, w impl.World, n impl.Need) []impl.Need {
	asked, _ := impl.AskedFor(w, n)
	if r.Intn(4) > 0 {
		asked = asked[len(asked)/2:]
	}
	var list []impl.Need
	for range r.Intn(7) {
		g := asked[r.Intn(len(asked))]
		switch r.Intn(4) {
		case 0:
			g.Class = w.Classes[r.Intn(len(w.Classes))].Name
		case 1:
			g.Type = someOf(r, "x", "y", "i", "b", g.Type, "l("+g.Type+")")
		case 2:
			if below := w.Classes[len(w.Classes)-1]; below.Supers != "" {
				g.Class = below.Name
			}
		}
		if impl.NeedValid(w, g) {
			list = append(list, g)
		}
	}
	return list
}

func TestGivensInManyWorlds(t *testing.T) {
	r := rand.New(rand.NewSource(21))
	counts, kinds := map[string]int{}, map[string]int{}
	for range 5000 {
		w := aboveWorld(r)
		n := impl.Need{Class: someOf(r, "E", "E", "O", "O", "S"), Type: someOf(r, highType(r, someOf(r, "i", "b", "x", "y"), r.Intn(19)), highType(r, "i", 12+r.Intn(7)), someForm(r, w, "ibx"), someType(r, "ibxy", 12))}
		givens := someGivens(r, w, n)
		if !impl.WorldValid(w) || !impl.GivensValid(w, givens) {
			t.Fatalf("the world %q or the givens %q of this test are not valid", w, givens)
		}
		evidence, why := givenByTexts(w, givens, n)
		checkFound(t, w, givens, n, evidence, why)
		least := leastByTexts(w, givens)
		if got := needsText(impl.LeastGivens(w, givens)); got != least {
			t.Errorf("LeastGivens(%q, %q) = %q, want %q", impl.FormatWorld(w), givens, got, least)
		}
		if t.Failed() {
			return
		}
		counts[why]++
		for name, found := range map[string]bool{
			"with letters": strings.ContainsAny(evidence, "abcdef"), "with classes": strings.ContainsAny(evidence, "EOST"), "with digits": strings.ContainsAny(evidence, "0123456789"),
			"letters in brackets": strings.Contains(evidence, "(a"), "several letters": strings.Contains(evidence, "a") && strings.Contains(evidence, "b"), "fewer givens": len(needsFrom(least)) < len(givens), "several left": strings.Contains(least, "&"),
		} {
			if found {
				kinds[name]++
			}
		}
	}
	checkReasons(t, counts, 20)
	for _, name := range []string{"with letters", "with classes", "with digits", "letters in brackets", "several letters", "fewer givens", "several left"} {
		if kinds[name] < 40 {
			t.Errorf("%d of the searches of this test have evidence or givens %s", kinds[name], name)
		}
	}
}

// someEvidence returns evidence that may be right for a need, down to some depth.
func someEvidence(r *rand.Rand, w impl.World, givens []impl.Need, n impl.Need, depth int) string {
	var list []string
	for k, g := range givens {
		letter := "abcdef"[k : k+1]
		if g == n || r.Intn(40) == 0 {
			list = append(list, letter)
		}
		if g.Type == n.Type || r.Intn(40) == 0 {
			list = append(list, letter+n.Class)
		}
	}
	candidates, _ := impl.CandidatesOf(w, n)
	for _, i := range candidates {
		needs, _ := impl.NeedsOf(w, i, n.Type)
		var parts []string
		for _, need := range needs {
			if depth > 0 {
				parts = append(parts, someEvidence(r, w, givens, need, depth-1))
			}
		}
		text := strconv.Itoa(i)
		if len(parts) > 0 {
			text += "(" + strings.Join(parts, ",") + ")"
		}
		list = append(list, text)
	}
	return someOf(r, append(list, strconv.Itoa(r.Intn(10)))...)
}

func TestTextsOfEvidenceInManyWorlds(t *testing.T) {
	r := rand.New(rand.NewSource(22))
	counts := map[string]int{}
	for range 4000 {
		w := aboveWorld(r)
		n := impl.Need{Class: someOf(r, "E", "E", "O", "O", "S"), Type: someOf(r, highType(r, someOf(r, "i", "b", "x", "y"), r.Intn(19)), highType(r, "i", 12+r.Intn(7)), someForm(r, w, "ibx"), someForm(r, w, "ibx"))}
		givens := someGivens(r, w, n)
		texts := []string{someEvidence(r, w, givens, n, r.Intn(4))}
		if evidence, why := impl.FindGiven(w, givens, n); why == "" && len(evidence) < 200 {
			texts = append(texts, evidence)
		}
		for _, s := range texts {
			counts[checkTextByTexts(t, w, givens, n, s)]++
			for range 3 {
				place := r.Intn(len(s) + 1)
				letter := someOf(r, "a", "b", "f", "E", "O", "S", "(", ",", ")", "0", "1", "7", "x", "")
				counts[checkTextByTexts(t, w, givens, n, s[:place]+letter+s[place:])]++
				counts[checkTextByTexts(t, w, givens, n, s[:place]+letter+s[min(place+1, len(s)):])]++
				counts[checkTextByTexts(t, w, givens, n, s[:place])]++
			}
		}
		if t.Failed() {
			return
		}
	}
	for _, want := range []string{"ok", "given", "instance", "big", "parts", "rest"} {
		if counts[want] < 50 {
			t.Errorf("%d of the answers of this test are %q", counts[want], want)
		}
	}
}

// allEvidence returns all right evidence of a need with at most so many letters of givens and digits.
func allEvidence(w impl.World, givens []impl.Need, n impl.Need, size int) []string {
	if size == 0 {
		return nil
	}
	var list []string
	for k, g := range givens {
		if g == n {
			list = append(list, "abcdef"[k:k+1])
		}
		if strings.Contains(reached(w.Classes, g.Class), n.Class) && g.Type == n.Type {
			list = append(list, "abcdef"[k:k+1]+n.Class)
		}
	}
	candidates, _ := choiceByTexts(w, n)
	for _, i := range candidates {
		rows := []string{strconv.Itoa(i)}
		mark, end := "(", ""
		for _, need := range needsFrom(needsByTexts(w.Instances[i], n.Type)) {
			var longer []string
			for _, row := range rows {
				for _, part := range allEvidence(w, givens, need, size-sizeOf(row)) {
					longer = append(longer, row+mark+part)
				}
			}
			rows, mark, end = longer, ",", ")"
		}
		for _, row := range rows {
			list = append(list, row+end)
		}
	}
	return list
}

// sizeOf returns how many letters of givens and digits a text has.
func sizeOf(s string) int {
	return len(strings.Map(func(c rune) rune {
		if strings.ContainsRune("abcdef0123456789", c) {
			return c
		}
		return -1
	}, s))
}

// TestAllShortTextsOfEvidence holds that of all short texts just those are right that are put together from right ones.
func TestAllShortTextsOfEvidence(t *testing.T) {
	texts := []string{""}
	for k := 0; len(texts[k]) < 6; k++ {
		for _, c := range "0aE(,)" {
			texts = append(texts, texts[k]+string(c))
		}
	}
	right := 0
	for _, c := range []struct{ world, givens, need string }{
		{"E O<E;E l(x):E x", "O x", "E l(x)"}, {"E O<E;E l(x):E l(x)", "O l(x)", "E l(x)"}, {"E O<E;E p(x,y):E y&E x", "E x", "E p(x,x)"}, {"E O<E;E p(x,y):E i", "E i", "E p(x,x)"}, {"E;E i", "-", "E i"}, {"E O<E;E i", "O i", "E i"}, {"E;E i:E i&E i", "E i", "E i"},
	} {
		w, givens, n := validWorld(t, c.world), needsFrom(c.givens), needOf(c.need)
		all := map[string]bool{}
		for _, s := range allEvidence(w, givens, n, 6) {
			all[s] = true
		}
		for _, s := range texts {
			if got := impl.CheckGiven(w, givens, n, s); (got == "ok") != all[s] {
				t.Errorf("CheckGiven(%q, %q, %q, %q) = %q", c.world, c.givens, c.need, s, got)
			}
			if all[s] {
				right++
			}
		}
	}
	if right < 10 {
		t.Errorf("%d texts of this test are right", right)
	}
}

// TestEvidenceWithoutGivensIsADictionary holds that CheckGiven and CheckDict find the same texts right then.
func TestEvidenceWithoutGivensIsADictionary(t *testing.T) {
	r := rand.New(rand.NewSource(23))
	right := 0
	for range 3000 {
		w := searchedWorld(r)
		d := someDict(r, w, "E", r.Intn(4))
		list := []string{highType(r, "i", r.Intn(6)), someForm(r, w, "ibx")}
		if form, ok := impl.FormOf(w, d); ok {
			list = append(list, form)
		}
		for _, s := range list {
			n := impl.Need{Class: "E", Type: s}
			dict, given := impl.CheckDict(w, n, d), impl.CheckGiven(w, nil, n, d)
			if (dict == "ok") != (given == "ok") || (dict == "big") != (given == "big") {
				t.Errorf("of the need %q in %q, the dictionary %q is %q, the evidence %q", n, impl.FormatWorld(w), d, dict, given)
			}
			if dict == "ok" {
				right++
			}
		}
	}
	if right < 100 {
		t.Errorf("%d dictionaries of this test are right", right)
	}
}

func TestNeedsThatComeDownInManyWorlds(t *testing.T) {
	r := rand.New(rand.NewSource(24))
	counts := map[string]int{}
	for range 6000 {
		w := aboveWorld(r)
		n := impl.Need{Class: someOf(r, "E", "E", "O", "S"), Type: someOf(r, highType(r, someOf(r, "i", "x", "x", "y"), r.Intn(19)), someForm(r, w, "xyi"), someType(r, "xyzXYZ", 25))}
		want := reducedByTexts(w, n)
		if got := needsText(impl.ReduceNeed(w, n)); got != want {
			t.Fatalf("ReduceNeed(%q, %q) = %q, want %q", impl.FormatWorld(w), n, got, want)
		}
		counts[[]string{"none", "one", "several"}[min(strings.Count(want, "&")+strings.Count(want, " "), 2)]]++
		if want == "" {
			counts["false"]++
			continue
		}
		// A need follows from those to which it comes down, and from no fewer.
		list, _ := impl.ReduceNeed(w, n)
		if len(list) <= impl.MaxGivens && !impl.Follows(w, list, n) {
			t.Errorf("in %q, %q does not follow from %q", impl.FormatWorld(w), n, want)
		}
		for k := range list {
			if others := slices.Concat(list[:k], list[k+1:]); len(others) <= impl.MaxGivens && !impl.Follows(w, others, list[k]) && impl.Follows(w, others, n) {
				t.Errorf("in %q, %q follows from %q", impl.FormatWorld(w), n, others)
			}
		}
	}
	for _, name := range []string{"none", "one", "several", "false"} {
		if counts[name] < 100 {
			t.Errorf("%d needs of this test come down to %s", counts[name], name)
		}
	}
}

// TestLeastGivensAreEnough holds that all givens follow from those that are left, and none of these from the others.
func TestLeastGivensAreEnough(t *testing.T) {
	r := rand.New(rand.NewSource(25))
	taken := 0
	for k := range 1500 {
		w := endingPart(t, fullWorld(r))
		w.Classes = classesOf([]string{"E O S", "E O<E S<O"}[k%2])
		n := impl.Need{Class: "E", Type: highType(r, someOf(r, "x", "y", "i"), r.Intn(5))}
		givens := someGivens(r, w, n)
		left, ok := impl.LeastGivens(w, givens)
		if !ok {
			t.Fatalf("LeastGivens(%q, %q) returns false", w, givens)
		}
		taken += len(givens) - len(left)
		for k := range left {
			if impl.Follows(w, slices.Concat(left[:k], left[k+1:]), left[k]) {
				t.Errorf("in %q, of %q, the given %d is left", impl.FormatWorld(w), left, k)
			}
		}
		for _, g := range givens {
			// A given may be above one that an instance meets, while none meets the given itself.
			if w.Classes[1].Supers == "" && !impl.Follows(w, left, g) {
				t.Errorf("in %q, the given %q does not follow from %q", impl.FormatWorld(w), g, left)
			}
		}
	}
	if taken < 200 {
		t.Errorf("%d givens of this test are taken out", taken)
	}
}

// withNeedsRoom returns a copy with a need behind it that is not to be changed.
func withNeedsRoom(list []impl.Need) []impl.Need {
	return append(slices.Clone(list), needOf("kept kept"))[:len(list)]
}

func TestListsOfGivensAreNewMemory(t *testing.T) {
	w, givens := withRoom(validWorld(t, givenWorld)), withNeedsRoom(needsFrom("E x&E y&E z"))
	for want, call := range map[string]func() ([]impl.Need, bool){
		"E x&E y&E z":     func() ([]impl.Need, bool) { return impl.AllGivens(w, givens) },
		"E x&E y&E z ":    func() ([]impl.Need, bool) { return impl.LeastGivens(w, givens) },
		"E x":             func() ([]impl.Need, bool) { return impl.ReduceNeed(w, needOf("E x")) },
		"S x&E x":         func() ([]impl.Need, bool) { return impl.ReduceNeed(w, needOf("S m(x)")) },
		"E x&E y&E z&O x": func() ([]impl.Need, bool) { return impl.ParseNeeds("E x&E y&E z&O x") },
	} {
		first, ok := call()
		second, _ := call()
		for k := range first[:cap(first)] {
			first[:cap(first)][k] = needOf("Z q")
		}
		again, _ := call()
		if want = strings.TrimSpace(want); !ok || needsText(second, true) != want || needsText(again, true) != want {
			t.Errorf("results share memory: %q, %q, want %q", second, again, want)
		}
		if !slices.Equal(givens[:4], needsFrom("E x&E y&E z&kept kept")) || !reflect.DeepEqual(behind(w), behind(withRoom(worldOf(givenWorld)))) {
			t.Errorf("a result shares memory with the givens %q or the world %q", givens[:4], w)
		}
	}
	left, _ := impl.LeastGivens(w, givens)
	all, _ := impl.AllGivens(w, givens)
	clear(givens[:4])
	if needsText(left, true) != "E x&E y&E z" || needsText(all, true) != "E x&E y&E z" {
		t.Errorf("a result shares memory with its argument: %q, %q", left, all)
	}
}

func TestGivensAreLeftAsTheyAre(t *testing.T) {
	for _, s := range append(worldTexts(), givenWorld, chain, counting, "O E", "E;E x", "A B C D E;A i") {
		for _, list := range []string{"-", "E x", "O x&E x&O x", "E x&E y&O x&E y&E x&O i", "E q&E x", "E x&E x&E x&E x&E x&E x&E x"} {
			w, givens := withRoom(worldOf(s)), withNeedsRoom(needsFrom(list))
			impl.GivensValid(w, givens)
			impl.AllGivens(w, givens)
			impl.LeastGivens(w, givens)
			impl.FormatNeeds(givens)
			for _, text := range []string{"E i", "E l(x)", "E x", "O l(i)", "A l(x)", "E " + asking(301), "A q"} {
				impl.FindGiven(w, givens, needOf(text))
				impl.Follows(w, givens, needOf(text))
				impl.CheckGiven(w, givens, needOf(text), "0(aE)")
				impl.CheckGiven(w, givens, needOf(text), "bE")
				impl.ReduceNeed(w, needOf(text))
			}
			if !reflect.DeepEqual(behind(w), behind(withRoom(worldOf(s)))) || !slices.Equal(givens[:len(givens)+1], append(needsFrom(list), needOf("kept kept"))) {
				t.Errorf("the world %q became %q, the givens %q became %q", s, w, list, givens)
			}
		}
	}
}

// FuzzTextsOfGivens runs its seeds in each test run.
func FuzzTextsOfGivens(f *testing.F) {
	for _, s := range []string{"E O<E;E l(x):E x|O x|E l(x)|0(aE)", givenWorld + "|S x&E y|S m(x)|4(a,aE)", "E|-|E i|0", "|||", "E;E i:E i|E x|E i|0(0(0("} {
		parts := strings.Split(s, "|")
		f.Add(parts[0], parts[1], parts[2], parts[3])
	}
	f.Fuzz(func(t *testing.T, world, givens, need, text string) {
		w, n := worldOf(world), needOf(need)
		list, ok := impl.ParseNeeds(givens)
		if ok && impl.FormatNeeds(list) != givens {
			t.Errorf("FormatNeeds(%q) = %q", list, impl.FormatNeeds(list))
		}
		evidence, why := impl.FindGiven(w, list, n)
		valid := impl.GivensValid(w, list) && impl.NeedValid(w, n)
		if (why == "wrong") == valid || (impl.CheckGiven(w, list, n, text) == "wrong") == valid {
			t.Errorf("FindGiven(%q, %q, %q) = %q, %q", world, givens, need, evidence, why)
		}
		if why == "" && impl.CheckGiven(w, list, n, evidence) != "ok" {
			t.Errorf("CheckGiven(%q, %q, %q, %q) is not ok", world, givens, need, evidence)
		}
		impl.ReduceNeed(w, n)
		impl.LeastGivens(w, list)
	})
}
