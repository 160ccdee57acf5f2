package tests

import (
	"math"
	"math/rand"
	"reflect"
	"slices"
	"strconv"
	"strings"
	"testing"

	"loop.example/instancesearch/impl"
)

// gapsText returns gaps such as "2E 3E", as listText does.
func gapsText(list []impl.Gap, ok bool) string {
	return listText(list, ok, " ", func(g impl.Gap) string { return strconv.Itoa(g.Instance) + g.Class })
}

// A viewed world has what the functions of classes above return for it.
type viewed struct {
	world, gaps string
	// The full needs of all instances, with ; between them and "no" where there are none, and the world that is
	// closed, both of which are "" if there is none.
	full, closed string
}

// checkFull holds the full needs of each instance, and of none, against texts.
func checkFull(t *testing.T, w impl.World, texts []string) {
	t.Helper()
	for i, want := range texts {
		if got := needsText(impl.FullNeeds(w, i)); got != strings.TrimPrefix(want, "no") {
			t.Errorf("FullNeeds(%q, %d) = %q, want %q", impl.FormatWorld(w), i, got, want)
		}
	}
	for _, i := range indicesThatAreOut(w) {
		if got := needsText(impl.FullNeeds(w, i)); (i < 0 || i >= len(texts)) && got != "" {
			t.Errorf("FullNeeds(%.300q, %d) = %q", w, i, got)
		}
	}
}

// checkGapsByReasons holds that the gaps are just the instances and classes for which there is a reason.
func checkGapsByReasons(t *testing.T, w impl.World, gaps string) {
	t.Helper()
	var list []impl.Gap
	for i := range w.Instances {
		for _, class := range strings.Split("ABCDEFGHIJKLMNOPQRST", "") {
			evidence, why := impl.EvidenceAbove(w, i, class)
			if evidence == "" && why != "wrong" {
				list = append(list, impl.Gap{Instance: i, Class: class})
			}
		}
	}
	if got := gapsText(list, true); gaps != "" && got != gaps {
		t.Errorf("in %q, there are reasons for %q, but not for %q", impl.FormatWorld(w), got, gaps)
	}
}

// checkView holds a world against texts, all of which are "" if it is not valid.
func checkView(t *testing.T, w impl.World, want viewed) {
	t.Helper()
	list, ok := impl.GapsOf(w)
	if got := gapsText(list, ok); got != want.gaps {
		t.Errorf("GapsOf(%.300q) = %q, want %q", w, got, want.gaps)
	}
	if got := impl.FormatGaps(list); ok && got != want.gaps {
		t.Errorf("FormatGaps(%v) = %q, want %q", list, got, want.gaps)
	}
	if got := impl.IsClosedAbove(w); got != (want.gaps == "-") {
		t.Errorf("IsClosedAbove(%.300q) = %v", w, got)
	}
	checkGapsByReasons(t, w, want.gaps)
	var full []string
	if want.full != "" {
		full = strings.Split(want.full, ";")
	}
	checkFull(t, w, full)
	other, ok := impl.CloseWorld(w)
	checkMade(t, "CloseWorld("+impl.FormatWorld(w)+")", other, ok, want.closed)
}

func checkViews(t *testing.T, list []viewed) {
	t.Helper()
	for _, c := range list {
		w := validWorld(t, c.world)
		if texts := strings.Split(c.full, ";"); len(w.Instances) > 0 && len(texts) != len(w.Instances) {
			t.Errorf("the world %q of this test has other instances than %q", c.world, c.full)
		}
		checkView(t, w, c)
	}
}

// checkClosed is for worlds without gaps, which stay as they are.
func checkClosed(t *testing.T, worlds ...string) {
	t.Helper()
	for _, s := range worlds {
		var full []string
		for _, i := range validWorld(t, s).Instances {
			full = append(full, needsText(i.Needs, true))
		}
		checkView(t, worldOf(s), viewed{s, "-", strings.Join(full, ";"), s})
	}
}

func TestWorldsThatAreClosedAbove(t *testing.T) {
	checkClosed(t,
		"E O<E;E i;E l(x):E x;O l(x):O x;O i", "E O<E;E i;E b;E l(x):E x;E p(x,y):E x&E y;O i;O l(x):O x",
		// Without instances, or without classes above.
		"E", "A B C D", "E O<E", fourClasses, "E;E i;E l(x):E x", "E O;O i;O l(x):E x", "E O<E;E i;E l(x):E l(x)", "E O S<EO;E i;O i;E i;O l(x):S x",
		// The need is one of the instance, or has a class above that of one.
		"E O<E;O l(x):E l(x)", "E O<E;O l(x):O l(x)", "E O<E;O i:E i", "E O<E;O i:O i", "E O<E;O l(x):E x&E l(x)", "A B<A C<B;C i:C i", "A B<A C<B;C i:B i;B i:A i", "A B<A C<B;C i:A i&B i;B i:B i",
		// Another instance meets it.
		"E O<E;O i;E i", "E O<E;E l(x);O l(x)", "E O<E;O l(i);E l(x):E x;E i", "E O<E;O l(l(x)):E x;E l(x):E x", "E O<E;O p(x,y):O x;E p(x,y):E x", "E O<E;O p(x,l(y)):O x&E y;E p(x,y):E y&E x;E l(x):E x",
		// Instances of one type, which only overlap for the class that is not above.
		"E O<E;O i;O i;O l(x);O l(x);E i;E l(x)", "E O<E;O l(i);O l(x);E l(x)",
		"A B<A C<B D<C;A l(x):A x;B l(x):B x;C l(x):C x;D l(x):D x", "A B<A C<B D<C;D i;C i;B i;A i", "A B<A C<AB D<ABC;D l(x):D x;A l(x):B x;B l(x):C x;C l(x):D x", "A B C<AB D;C i;B i;A i;D b",
		"E O<E"+strings.Repeat(";O l(x):O x", 9)+";E l(x):E x",
	)
}

func TestWorldsWithGaps(t *testing.T) {
	checkViews(t, []viewed{
		{"E O<E;E i;E l(x):E x;O l(x)", "2E", "-;E x;E x", "E O<E;E i;E l(x):E x;O l(x):E x"},
		{"E O<E;E i;E l(x):E x;O l(x);O m(x):O x", "2E 3E", "-;E x;E x;no", ""},
		{"E O<E;E i;E b;E l(x):E x;E p(x,y):E x&E y;O i;O l(x):O x;O m(x)", "6E", "-;-;E x;E x&E y;-;O x;no", ""},
		{"E O<E;E i;E b;E l(x):E x;E p(x,y):E x&E y;O i;O l(x):O x;O m(x);E m(x):E x", "6E", "-;-;E x;E x&E y;-;O x;E x;E x", "E O<E;E i;E b;E l(x):E x;E p(x,y):E x&E y;O i;O l(x):O x;O m(x):E x;E m(x):E x"},
		// Instances without needs, and those of types without variables.
		{"E O<E;O i", "0E", "no", ""}, {"E O<E;O i;E b", "0E", "no;-", ""}, {"E O<E;O l(x);E l(i)", "0E", "no;-", ""}, {"E O<E;O l(i);E l(x):E x", "0E", "no;E x", ""}, {"E O<E;O l(i);E l(x):E x;E b", "0E", "no;E x;-", ""}, {"E O<E;O p(x,y);E p(x,x)", "0E", "no;-", ""},
		{"E O<E;O p(x,x);E p(x,y):E y", "0E", "E x;E y", "E O<E;O p(x,x):E x;E p(x,y):E y"}, {"E O<E;O l(l(Z));E l(x):E x", "0E", "E Z;E x", "E O<E;O l(l(Z)):E Z;E l(x):E x"},
		// The need of another type, or of another class, which is not above.
		{"E O<E;O l(x):O i;E l(x):E x", "0E", "O i&E x;E x", "E O<E;O l(x):O i&E x;E l(x):E x"}, {"E O<E;O p(x,y):O x;E p(x,y):E y", "0E", "O x&E y;E y", "E O<E;O p(x,y):O x&E y;E p(x,y):E y"}, {"E O<E S;O l(x):S x;E l(x):E x", "0E", "S x&E x;E x", "E O<E S;O l(x):S x&E x;E l(x):E x"},
		{"E O S<O;S l(x):E x;O l(x):O x;E l(x):E x", "0O", "E x&O x;O x;E x", "E O S<O;S l(x):E x&O x;O l(x):O x;E l(x):E x"}, {"E O<E S<E;O l(x):E x;E l(x):S x", "0E", "E x&S x;S x", "E O<E S<E;O l(x):E x&S x;E l(x):S x"},
		// A need of what is above may be one of the class itself.
		{"E O<E;O l(x);E l(x):O x", "0E", "O x;O x", "E O<E;O l(x):O x;E l(x):O x"}, {"E O<E;O l(x);E l(x):O l(x)&E x", "0E", "E x;O l(x)&E x", "E O<E;O l(x):E x;E l(x):O l(x)&E x"},
		// Some instances of many, at the first and at the last place.
		{"E O<E;O l(x);E l(x):E x;O m(x):E x;E m(x):E x;O p(x,y):O y;E p(x,y):E y;O l(y);E i;E b;O l(l(x))", "0E 6E 9E", "E x;E x;E x;E x;O y;E y;E y;-;-;E x", "E O<E;O l(x):E x;E l(x):E x;O m(x):E x;E m(x):E x;O p(x,y):O y;E p(x,y):E y;O l(y):E y;E i;E b;O l(l(x)):E x"},
		{"E O<E;E l(x):E x" + strings.Repeat(";O l(x)", 9), "1E 2E 3E 4E 5E 6E 7E 8E 9E", "E x" + strings.Repeat(";E x", 9), "E O<E;E l(x):E x" + strings.Repeat(";O l(x):E x", 9)},
		{"E O<E" + strings.Repeat(";O i", 10), "0E 1E 2E 3E 4E 5E 6E 7E 8E 9E", strings.Repeat("no;", 9) + "no", ""},
	})
}

func TestSeveralGapsOfOneInstance(t *testing.T) {
	checkViews(t, []viewed{
		// Classes above classes above.
		{"A B<A C<B;C i", "0A 0B", "no", ""}, {"A B<A C<B;C i;B i", "0A 1A", "no;no", ""}, {"A B<A C<B;C i;A i", "0B", "no;-", ""}, {"A B<A C<B D<C;D i", "0A 0B 0C", "no", ""}, {"A B<A C<B D<C;D i;B i", "0A 0C 1A", "no;no", ""},
		{"A B<A C<B;A l(x):A x;B l(x):B x;C l(x)", "2A 2B", "A x;B x;A x&B x", "A B<A C<B;A l(x):A x;B l(x):B x;C l(x):A x&B x"}, {"A B<A C<B;A l(x):A x;B l(x):B x;C l(x):A x", "2B", "A x;B x;A x&B x", "A B<A C<B;A l(x):A x;B l(x):B x;C l(x):A x&B x"},
		{"A B<A C<B;A l(x):B x;B l(x):A x;C l(x)", "1A 2A 2B", "B x;A x&B x;B x&A x", "A B<A C<B;A l(x):B x;B l(x):A x&B x;C l(x):B x&A x"},
		// They are in the order of the instances and then of the classes, which is not that of paths upwards.
		{"A B<A C<A D<BC;D i;B i;C b", "0A 0C 1A 2A", "no;no;no", ""}, {"A B C<AB D<C;D i;C i", "0A 0B 1A 1B", "no;no", ""}, {"A B C<A D<BC;D i", "0A 0B 0C", "no", ""}, {"A B C D<ABC;D i;C i;D b", "0A 0B 2A 2B 2C", "no;-;no", ""}, {"A G M<A T<GM;T i;M b", "0A 0G 0M 1A", "no;no", ""},
		// Needs are behind those of the instance, in the order of the gaps, each once and as they come down.
		{"A B C D<ABC;D l(x);C l(x):A x&B x;B l(x):B x;A l(x):A x", "0A 0B 0C", "A x&B x;A x&B x;B x;A x", "A B C D<ABC;D l(x):A x&B x;C l(x):A x&B x;B l(x):B x;A l(x):A x"},
		{"A B C D<ABC;D l(x):D x;C l(x):B x&A x;B l(x);A l(x):C x", "-", "D x;B x&A x;-;C x", "A B C D<ABC;D l(x):D x;C l(x):B x&A x;B l(x);A l(x):C x"},
		{"A B C D<ABC;D p(x,y);A p(x,y):A y;B p(x,y):B x;C p(x,y):A y&B x&C x", "0A 0B 0C", "A y&B x&C x;A y;B x;A y&B x&C x", "A B C D<ABC;D p(x,y):A y&B x&C x;A p(x,y):A y;B p(x,y):B x;C p(x,y):A y&B x&C x"},
		{"A B D<AB;D p(x,y):B x;A p(x,y):A y&B x&A x;B p(x,y):B x", "0A", "B x&A y&A x;A y&B x&A x;B x", "A B D<AB;D p(x,y):B x&A y&A x;A p(x,y):A y&B x&A x;B p(x,y):B x"},
		// A gap for which nothing comes down, before one for which something does, and behind it.
		{"A B D<AB;D l(x);B l(x):B x", "0A 0B", "no;B x", ""}, {"A B D<AB;D l(x);A l(x):A x", "0A 0B", "no;A x", ""},
	})
}

func TestNeedsThatAreThereAlready(t *testing.T) {
	world := "E O<E;E p(x,y):E x&E y;O p(x,y)"
	checkViews(t, []viewed{
		{world + ":E x", "1E", "E x&E y;E x&E y", world + ":E x&E y"}, {world + ":E y", "1E", "E x&E y;E y&E x", world + ":E y&E x"},
		// It is of no matter that some follow from others, or are those of types that come down to them.
		{world + ":O x", "1E", "E x&E y;O x&E x&E y", world + ":O x&E x&E y"}, {world + ":O y", "1E", "E x&E y;O y&E x&E y", world + ":O y&E x&E y"}, {world + ":E p(x,x)", "1E", "E x&E y;E p(x,x)&E x&E y", world + ":E p(x,x)&E x&E y"},
		// They come twice.
		{"E O<E;E p(x,y):E x&E y;O p(x,x)", "1E", "E x&E y;E x", "E O<E;E p(x,y):E x&E y;O p(x,x):E x"}, {"E O<E;E p(x,y):E x&E y&E x;O p(p(x,y),p(y,x))", "1E", "E x&E y&E x;E x&E y", "E O<E;E p(x,y):E x&E y&E x;O p(p(x,y),p(y,x)):E x&E y"},
		// Needs of the instance itself are kept, also if they come twice.
		{"E O<E;E l(x):E x;O l(x):E i&E i", "1E", "E x;E i&E i&E x", "E O<E;E l(x):E x;O l(x):E i&E i&E x"}, {"E O<E;E l(x);O l(x):O x&O x&O x", "-", "-;O x&O x&O x", "E O<E;E l(x);O l(x):O x&O x&O x"},
		// Gaps of two classes that come down to the same.
		{"A B C<AB;A l(x):A x;B l(x):A x;C l(x)", "2A 2B", "A x;A x;A x", "A B C<AB;A l(x):A x;B l(x):A x;C l(x):A x"},
		{"A B C<AB;A p(x,y):A x&A y;B p(x,y):A y&B x&A x;C p(x,y)", "2A 2B", "A x&A y;A y&B x&A x;A x&A y&B x", "A B C<AB;A p(x,y):A x&A y;B p(x,y):A y&B x&A x;C p(x,y):A x&A y&B x"},
	})
}

func TestInstancesWithTooManyFullNeeds(t *testing.T) {
	checkViews(t, []viewed{
		{"E O<E;E p(x,y):E x&E y;O p(x,y):O i", "1E", "E x&E y;O i&E x&E y", "E O<E;E p(x,y):E x&E y;O p(x,y):O i&E x&E y"},
		{"E O<E;E p(x,y):E x&E y;O p(x,y):O i&O b", "1E", "E x&E y;O i&O b&E x&E y", ""}, {"E O<E;E p(x,y):E x&E y;O p(x,y):O i&E x&O i", "1E", "E x&E y;O i&E x&O i&E y", ""}, {"E O<E;E l(x):E x;O l(x):O i&O i&O i", "1E", "E x;O i&O i&O i&E x", ""},
		{"E O<E;E p(x,y):E x&E y;O p(p(X,Y),Z)", "1E", "E x&E y;E X&E Y&E Z", "E O<E;E p(x,y):E x&E y;O p(p(X,Y),Z):E X&E Y&E Z"}, {"E O<E;E p(x,y):E x&E y;O p(p(X,Y),p(Z,z))", "1E", "E x&E y;E X&E Y&E Z&E z", ""},
		{"A B C<AB;A p(x,y):A x&A y;B p(x,y):B x&B y;C p(x,y)", "2A 2B", "A x&A y;B x&B y;A x&A y&B x&B y", ""},
		// More than there may be givens.
		{"A B C D<ABC;A p(x,y):A x&A y;B p(x,y):B x&B y;C p(x,y):C y&C x;D p(p(X,Y),p(Z,z))", "3A 3B 3C", "A x&A y;B x&B y;C y&C x;A X&A Y&A Z&A z&B X&B Y&B Z&B z&C z&C Z&C Y&C X", ""},
		{"A B C<AB;A p(x,y):A x&A y;B p(x,y):B x&B y;C p(p(X,Y),p(Z,z)):C i&C b&C u", "2A 2B", "A x&A y;B x&B y;C i&C b&C u&A X&A Y&A Z&A z&B X&B Y&B Z&B z", ""},
	})
}

// TestFullNeedsThatCloseNoWorld has worlds in which all instances have full needs, but in which those of one lack the
// needs that another one is given.
func TestFullNeedsThatCloseNoWorld(t *testing.T) {
	for _, c := range []viewed{
		{"E O<E;E l(x):E x;O l(x);E m(x):O l(x);O m(x)", "1E", "E x;E x;O l(x);-", "E O<E;E l(x):E x;O l(x):E x;E m(x):O l(x);O m(x)"},
		{"A B<A C<B;A l(x):A x;B l(x);A m(x);B m(x):B l(x);C m(x)", "1A", "A x;A x;-;B l(x);-", "A B<A C<B;A l(x):A x;B l(x):A x;A m(x);B m(x):B l(x);C m(x)"},
		{"E O<E;O m(x);E m(x):O l(x);O l(x);E l(x):E x", "2E", "-;O l(x);E x;E x", "E O<E;O m(x);E m(x):O l(x);O l(x):E x;E l(x):E x"},
	} {
		checkViews(t, []viewed{{c.world, c.gaps, c.full, ""}})
		if impl.IsClosedAbove(validWorld(t, c.closed)) {
			t.Errorf("the world %q of this test is closed above", c.closed)
		}
	}
	// Without the instance that lacks them, or with them, it is closed.
	checkViews(t, []viewed{
		{"E O<E;E l(x):E x;O l(x);E m(x):O l(x)", "1E", "E x;E x;O l(x)", "E O<E;E l(x):E x;O l(x):E x;E m(x):O l(x)"}, {"E O<E;E l(x):E x;O l(x);E m(x):O l(x);O m(x):E x", "1E", "E x;E x;O l(x);E x", "E O<E;E l(x):E x;O l(x):E x;E m(x):O l(x);O m(x):E x"},
		// A gap that comes down to the needs as they are before, but is no gap then any more.
		{"E O<E;E l(x):E x;O l(x);E m(x):O l(x)&E x;O m(x)", "1E 3E", "E x;E x;O l(x)&E x;E x", "E O<E;E l(x):E x;O l(x):E x;E m(x):O l(x)&E x;O m(x):E x"},
	})
}

// A look has the evidence of a class above an instance, or the reason why there is none.
type look struct {
	i                    int
	class, evidence, why string
}

func checkLooks(t *testing.T, world string, list []look) {
	t.Helper()
	w := validWorld(t, world)
	for _, c := range list {
		evidence, why := impl.EvidenceAbove(w, c.i, c.class)
		if evidence != c.evidence || why != c.why {
			t.Errorf("EvidenceAbove(%q, %d, %q) = %q, %q, want %q, %q", world, c.i, c.class, evidence, why, c.evidence, c.why)
		}
		if why != "wrong" && (evidence == "") == (why == "") {
			t.Errorf("EvidenceAbove(%q, %d, %q) has both results, or none", world, c.i, c.class)
		}
	}
}

func TestEvidenceAbove(t *testing.T) {
	checkLooks(t, "E O<E;E i;E l(x):E x;O l(x):O x;O i;O m(x):O x;O l(i);O b:E b;O u:O u;O l(l(x)):E x;O p(x,y):E y&O y&O x", []look{
		{2, "E", "1(aE)", ""}, {3, "E", "0", ""}, {4, "E", "", "none"}, {5, "E", "1(0)", ""}, {6, "E", "a", ""}, {7, "E", "aE", ""}, {8, "E", "1(1(a))", ""}, {9, "E", "", "none"},
	})
	// The letter of the first need that is the one above, and otherwise of the first one of its type below.
	checkLooks(t, "A B<A C<B;A l(x):A x;B l(x):B x;C l(x):C x&B x&A x;C l(y):B y&C y;C l(z):C z;B l(x):B i&B x&B x;C m(x):C m(x)&B m(x);C m(y):B m(y)&A m(y)&B m(y);C p(x,y):B p(x,y)&C p(x,y)", []look{
		{2, "A", "0(c)", ""}, {3, "A", "0(aA)", ""}, {4, "A", "0(aA)", ""}, {5, "A", "0(bA)", ""}, {6, "A", "aA", ""}, {6, "B", "b", ""}, {7, "A", "b", ""}, {7, "B", "a", ""}, {8, "A", "aA", ""}, {8, "B", "a", ""},
		{2, "B", "", "many"}, {3, "B", "", "many"}, {1, "A", "0(aA)", ""},
	})
	checkLooks(t, "A B<A C<B D<C;D l(x):D x;A l(x):A x;B l(x):A x&B x;C l(x):C x&B x&A x", []look{{0, "A", "1(aA)", ""}, {0, "B", "2(aA,aB)", ""}, {0, "C", "3(aC,aB,aA)", ""}, {2, "A", "1(a)", ""}, {3, "A", "1(c)", ""}, {3, "B", "2(c,b)", ""}})
	// Three needs, some of which are not asked for.
	checkLooks(t, "E O<E;E p(x,p(y,z)):E z&E x&E y;O p(x,p(y,z)):O x&E y&O z;O p(X,p(Y,Z)):E Z&E X&O Y;O p(x,p(x,x)):E x;O p(l(x),p(i,x)):E i&E l(x)&E x;O p(x,p(y,i)):O x&O y&E x", []look{
		{1, "E", "0(cE,aE,b)", ""}, {2, "E", "0(a,b,cE)", ""}, {3, "E", "0(a,a,a)", ""}, {4, "E", "0(c,b,a)", ""}, {5, "E", "", "none"},
	})
	// The type has an instance that the need as it is given makes needless.
	checkLooks(t, "E O<E;E i;E i;O i;O l(x):E i;E l(x):E i;O b:E i", []look{{2, "E", "", "many"}, {3, "E", "4(a)", ""}, {5, "E", "", "none"}})
}

// askedWorld returns a world in which evidence of E for the last instance asks for some needs that are not those of
// variables, and then for one of x; the type of u has a number of needs beside 244 others.
func askedWorld(number int, needs string) string {
	own := map[int]string{55: "E l(l(l(i)))&E l(l(i))&E i", 56: "E l(l(l(i)))&E p(l(l(i)),i)", 57: "E l(l(l(i)))&E l(l(i))&E p(i,i)"}[number-244]
	return "E O<E;E i;E l(x):E x&E x&E x;E p(x,y):E x&E y;E u:" + own + ";E m(x):E l(l(l(l(i))))&E p(l(l(l(l(i)))),u)&E x;O m(x)" + needs
}

// deepWorld returns a world in which evidence of A and B for the last instance comes down to A t at the depths 31 and 30.
func deepWorld(t, needs string) string {
	return "A B C D<AB;A l(x):B l(x);B l(x):C l(x);C l(x):A x;A m(x):A l(l(l(l(l(x)))));B m(x):B l(l(l(l(l(x)))));A i;D m(l(l(l(l(l(" + t + "))))))" + needs
}

func TestReasonsWhyThereIsNoEvidenceAbove(t *testing.T) {
	for why, c := range map[string]viewed{
		"none":  {"E O<E;E l(x):E x;O l(i)", "1E", "E x;no", ""},
		"many":  {"E O<E;E l(x):E x;E l(i);E i;O l(i)", "3E", "E x;-;-;no", ""},
		"deep":  {"E O<E;E l(x):E l(x);O l(i)", "1E", "E l(x);no", ""},
		"big":   {"E O<E;E l(x):E l(p(x,x));O l(i)", "1E", "E l(p(x,x));no", ""},
		"long":  {"E O<E;E l(x):E x&E x&E x;E i;O l(l(l(l(l(l(i))))))", "2E", "E x&E x&E x;-;no", ""},
		"none ": {"E O<E;E l(x):E x;O l(x)", "1E", "E x;E x", "E O<E;E l(x):E x;O l(x):E x"},
	} {
		checkViews(t, []viewed{c})
		checkLooks(t, c.world, []look{{len(worldOf(c.world).Instances) - 1, "E", "", strings.TrimSpace(why)}})
	}
	// A need that is given is met, whatever the reason would be without it.
	for _, s := range []string{"E O<E;E l(x):E x;E l(i);E i;O l(i)", "E O<E;E l(x):E l(x);O l(i)", "E O<E;E l(x):E l(p(x,x));O l(i)", "E O<E;E l(x):E x&E x&E x;E i;O l(l(l(l(l(l(i))))))"} {
		last := s[strings.LastIndex(s, "O ")+2:]
		checkClosed(t, s+":E "+last, s+":O i&O "+last)
		checkLooks(t, s+":O i&O "+last, []look{{strings.Count(s, ";") - 1, "E", "bE", ""}})
	}
}

func TestEvidenceAboveThatAsksForMost(t *testing.T) {
	last := func(world string) string { return world[strings.LastIndex(world, ";")+1:] }
	for number, why := range map[int]string{299: "none", 300: "long", 301: "long"} {
		world := askedWorld(number, "")
		own := make([]string, 5)
		for k, i := range validWorld(t, world).Instances[:5] {
			own[k] = needsText(i.Needs, true)
		}
		// The need of a variable neither counts where it comes down to it, nor where it is given.
		want := viewed{world, "5E", strings.Join(own, ";") + ";E x", world + ":E x"}
		if number == 301 {
			want.full, want.closed = strings.Join(own, ";")+";no", ""
		}
		checkViews(t, []viewed{want})
		checkLooks(t, world, []look{{5, "E", "", why}})
		given := askedWorld(number, ":E x")
		if last(given) != "O m(x):E x" {
			t.Fatalf("the last instance of this test is %q", last(given))
		}
		if number == 301 {
			checkLooks(t, given, []look{{5, "E", "", "long"}})
			continue
		}
		checkClosed(t, given, askedWorld(number, ":O x"))
	}
}

func TestEvidenceAboveThatIsDeepest(t *testing.T) {
	five, own := "l(l(l(l(l(x)))))", "B l(x);C l(x);A x;A l(l(l(l(l(x)))));B l(l(l(l(l(x)))));-"
	checkViews(t, []viewed{
		{deepWorld("x", ""), "6A 6B", own + ";A x", deepWorld("x", ":A x")}, {deepWorld("i", ""), "6A", own + ";no", ""}, {deepWorld("u", ""), "6A 6B", own + ";no", ""},
		{deepWorld("x", ":A "+five+"&D i"), "-", own + ";A " + five + "&D i", deepWorld("x", ":A "+five+"&D i")}, {deepWorld("x", ":D l(i)&D i"), "6A 6B", own + ";D l(i)&D i&A x", deepWorld("x", ":D l(i)&D i&A x")},
	})
	checkLooks(t, deepWorld("x", ""), []look{{6, "A", "", "deep"}, {6, "B", "", "none"}})
	checkLooks(t, deepWorld("i", ""), []look{{6, "A", "", "deep"}, {6, "B", "4(1(2(" + strings.Repeat("0(1(2(", 9) + "5" + strings.Repeat(")", 30), ""}})
	checkLooks(t, deepWorld("u", ""), []look{{6, "A", "", "deep"}, {6, "B", "", "none"}})
	checkLooks(t, deepWorld("x", ":D x"), []look{{6, "A", "3(" + strings.Repeat("0(1(2(", 10) + "aA" + strings.Repeat(")", 31), ""}, {6, "B", "4(1(2(" + strings.Repeat("0(1(2(", 9) + "aA" + strings.Repeat(")", 30), ""}})
	checkClosed(t, deepWorld("x", ":A x"), deepWorld("x", ":D x"), deepWorld("i", ":A i"), deepWorld("x", ":C "+five), deepWorld("x", ":A "+five+"&B "+five))
}

// textsThatAreNoClasses has texts that are not above a class in any world.
func textsThatAreNoClasses() []string {
	return []string{"", " ", "E ", " E", "e", "EE", "EO", "OE", "AB", "ABC", "U", "V", "Z", "a", "@", "1", "-", "E\x00", "\x00", "\xff", "\xc5", "É", "Е", "E<", "E i", strings.Repeat("E", 100000)}
}

func TestClassesThatAreNotAbove(t *testing.T) {
	for _, s := range []string{"E O<E S;E i;O i;S i:E i", "E O<E S<O;E i;O i:E i;S i", "A B<A C<AB D<ABC;D i;C i;B i;A i", "E;E i", "A B C D;A i;B i;C i;D i"} {
		w := validWorld(t, s)
		texts := textsThatAreNoClasses()
		for b := range 256 {
			texts = append(texts, string([]byte{byte(b)}))
		}
		for i, one := range w.Instances {
			above := reached(w.Classes, one.Class)
			for _, class := range texts {
				wrong := len(class) != 1 || !strings.Contains(above, class)
				if evidence, why := impl.EvidenceAbove(w, i, class); (why == "wrong") != wrong || wrong && evidence != "" {
					t.Errorf("EvidenceAbove(%q, %d, %.300q) = %q, %q", s, i, class, evidence, why)
				}
				if dict, why := impl.DictAbove(w, one.Need, class); (why == "wrong") != wrong || wrong && dict != "" {
					t.Errorf("DictAbove(%q, %q, %.300q) = %q, %q", s, one.Need, class, dict, why)
				}
			}
		}
		for _, i := range indicesThatAreOut(w) {
			for _, class := range append(texts, "E", "O", "A") {
				if evidence, why := impl.EvidenceAbove(w, i, class); evidence != "" || why != "wrong" {
					t.Errorf("EvidenceAbove(%q, %d, %.300q) = %q, %q", s, i, class, evidence, why)
				}
			}
		}
	}
}

func TestWorldsThatAreNotValidFromAbove(t *testing.T) {
	list := append(worldsThatAreNotValid(), worldOf("E O<E;O l(x);E l(x);E x"), worldOf("E O<E;O i;O i;E q"), worldOf("E O<E;O i;E i;O b:E i&E i&E i&E i"), worldOf("O E<O;E i;O i"), worldOf("E O<E"+strings.Repeat(";O i;E i", 6)))
	for _, s := range classesThatAreNotValid() {
		list = append(list, impl.World{Classes: classesOf(s)}, impl.World{Classes: classesOf(s), Instances: []impl.Instance{instanceOf("O i"), instanceOf("B i"), instanceOf("A i")}})
	}
	for _, s := range instancesThatAreNotValid() {
		for place := range 3 {
			w := worldOf(threeClasses + ";O i;E i")
			w.Instances = slices.Insert(w.Instances, place, instanceOf(s))
			list = append(list, w)
		}
	}
	for _, w := range list {
		checkView(t, w, viewed{})
		for i := -1; i < 4; i++ {
			for _, class := range []string{"E", "O", "A", "B", "S", ""} {
				if evidence, why := impl.EvidenceAbove(w, i, class); evidence != "" || why != "wrong" {
					t.Errorf("EvidenceAbove(%.300q, %d, %q) = %q, %q", w, i, class, evidence, why)
				}
			}
			if got := needsText(impl.FullNeeds(w, i)); got != "" {
				t.Errorf("FullNeeds(%.300q, %d) = %q", w, i, got)
			}
		}
		for _, s := range []string{"O i", "O l(x)", "B i", "E l(i)", "A x", "Z q", ""} {
			checkDictAbove(t, w, needOf(s), "E", "", "wrong")
			checkDictAbove(t, w, needOf(s), "A", "", "wrong")
		}
	}
}

func checkDictAbove(t *testing.T, w impl.World, n impl.Need, class, dict, why string) {
	t.Helper()
	if got, reason := impl.DictAbove(w, n, class); got != dict || reason != why {
		t.Errorf("DictAbove(%.300q, %.300q, %.300q) = %q, %q, want %q, %q", w, n, class, got, reason, dict, why)
	}
}

func checkDictsAbove(t *testing.T, world string, rows ...[4]string) {
	t.Helper()
	w := validWorld(t, world)
	for _, c := range rows {
		checkDictAbove(t, w, validNeed(t, w, c[0]), c[1], c[2], c[3])
	}
}

func TestDictionariesOfClassesAbove(t *testing.T) {
	checkDictsAbove(t, "E O<E;E i;E l(x):E x;O l(x):O x;O i;E p(x,y):E x&E y;E b", [][4]string{
		{"O l(i)", "E", "1(0)", ""}, {"O i", "E", "0", ""}, {"O l(l(i))", "E", "1(1(0))", ""},
		// Whether there is a dictionary of the need itself or not.
		{"O b", "E", "5", ""}, {"O p(b,l(i))", "E", "4(5,1(0))", ""}, {"O l(b)", "E", "1(5)", ""}, {"O u", "E", "", "none"}, {"O l(u)", "E", "", "none"}, {"O x", "E", "", "none"}, {"O l(x)", "E", "", "none"}, {"O m(i)", "E", "", "none"},
		// Classes that are not above.
		{"E i", "O", "", "wrong"}, {"E i", "E", "", "wrong"}, {"O i", "O", "", "wrong"}, {"O i", "A", "", "wrong"}, {"O i", "", "", "wrong"}, {"O i", "EO", "", "wrong"}, {"O i", "E ", "", "wrong"}, {"O x", "S", "", "wrong"},
	}...)
	checkDictsAbove(t, "A B<A C<B D;C i;A l(x):B x;B l(x):C x;B i;A i;D i", [][4]string{
		{"C l(i)", "A", "1(3)", ""}, {"C l(i)", "B", "2(0)", ""}, {"B l(i)", "A", "1(3)", ""}, {"C l(l(i))", "A", "1(2(0))", ""}, {"C l(l(i))", "B", "", "none"}, {"C b", "A", "", "none"}, {"C b", "B", "", "none"}, {"C i", "A", "4", ""},
		{"A i", "B", "", "wrong"}, {"A i", "C", "", "wrong"}, {"B i", "C", "", "wrong"}, {"B i", "D", "", "wrong"}, {"D i", "A", "", "wrong"}, {"C i", "D", "", "wrong"}, {"C i", "C", "", "wrong"},
	}...)
	// Each reason.
	long := "l(" + long26 + ")"
	checkDictsAbove(t, strings.Replace(counting, "E N O", "E N O S<ENO", 1), [][4]string{
		{"S i", "E", "0", ""}, {"S " + asking(301), "E", "", "long"}, {"S b", "E", "", "none"}, {"S u", "N", "", "many"}, {"S m(i)", "O", "", "deep"}, {"S " + long, "N", "", "big"}, {"S m(i)", "S", "", "wrong"}, {"O m(i)", "E", "", "wrong"},
	}...)
	w := worldOf(strings.Replace(counting, "E N O", "E N O S<ENO", 1))
	_, dict := askedOf(300)
	checkDictAbove(t, w, needOf("S "+asking(300)), "E", dict, "")
	// Needs that are not valid.
	for _, s := range textsThatAreNoTypes() {
		checkDictAbove(t, w, impl.Need{Class: "S", Type: s}, "E", "", "wrong")
	}
	for _, class := range append(textsThatAreNoClasses(), "A", "T") {
		checkDictAbove(t, w, impl.Need{Class: class, Type: "i"}, "E", "", "wrong")
	}
}

func TestFormatGaps(t *testing.T) {
	for want, list := range map[string][]impl.Gap{
		"-": nil, "2E": {{Instance: 2, Class: "E"}}, "2E 3E": {{Instance: 2, Class: "E"}, {Instance: 3, Class: "E"}}, "3O 2E 3O": {{Instance: 3, Class: "O"}, {Instance: 2, Class: "E"}, {Instance: 3, Class: "O"}},
		"0A 0B 9A": {{Instance: 0, Class: "A"}, {Instance: 0, Class: "B"}, {Instance: 9, Class: "A"}}, "10T": {{Instance: 10, Class: "T"}}, "-1E": {{Instance: -1, Class: "E"}}, "-10E 0 100Z": {{Instance: -10, Class: "E"}, {}, {Instance: 100, Class: "Z"}},
		"0": {{}}, "0 0": {{}, {}}, "0 ": {{Class: " "}}, "1EO 2-": {{Instance: 1, Class: "EO"}, {Instance: 2, Class: "-"}}, "7\xff\x00": {{Instance: 7, Class: "\xff\x00"}},
		"9223372036854775807E -9223372036854775808O": {{Instance: math.MaxInt64, Class: "E"}, {Instance: math.MinInt64, Class: "O"}},
	} {
		if got := impl.FormatGaps(list); got != want {
			t.Errorf("FormatGaps(%v) = %q, want %q", list, got, want)
		}
	}
	if got := impl.FormatGaps([]impl.Gap{}); got != "-" {
		t.Errorf("FormatGaps of no gaps = %q", got)
	}
	var texts []string
	var list []impl.Gap
	for k := -2000; k < 2000; k++ {
		list = append(list, impl.Gap{Instance: k, Class: "E"})
		texts = append(texts, strconv.Itoa(k)+"E")
	}
	if got := impl.FormatGaps(list); got != strings.Join(texts, " ") {
		t.Errorf("FormatGaps of 4000 gaps = %.300q", got)
	}
}

func aboveByTexts(w impl.World, i int, class string) (string, string) {
	one := w.Instances[i]
	if len(class) != 1 || !strings.Contains(reached(w.Classes, one.Class), class) {
		return "", "wrong"
	}
	return givenByTexts(w, one.Needs, impl.Need{Class: class, Type: one.Type})
}

func gapsByTexts(w impl.World) []impl.Gap {
	var list []impl.Gap
	for i := range w.Instances {
		for _, c := range w.Classes {
			if _, why := aboveByTexts(w, i, c.Name); why != "" && why != "wrong" {
				list = append(list, impl.Gap{Instance: i, Class: c.Name})
			}
		}
	}
	return list
}

// fullByTexts returns the full needs of an instance, "no" if there are none.
func fullByTexts(w impl.World, i int) string {
	one := w.Instances[i]
	list := slices.Clone(one.Needs)
	for _, g := range gapsByTexts(w) {
		if g.Instance != i {
			continue
		}
		text := reducedByTexts(w, impl.Need{Class: g.Class, Type: one.Type})
		if text == "" {
			return "no"
		}
		for _, n := range needsFrom(text) {
			if !slices.Contains(list, n) {
				list = append(list, n)
			}
		}
	}
	return needsText(list, true)
}

func viewByTexts(w impl.World) viewed {
	other := impl.World{Classes: w.Classes, Instances: slices.Clone(w.Instances)}
	var texts []string
	found := true
	for i := range w.Instances {
		text := fullByTexts(w, i)
		texts = append(texts, text)
		if text == "no" {
			found = false
			continue
		}
		other.Instances[i].Needs = needsFrom(text)
		found = found && len(other.Instances[i].Needs) <= 3
	}
	view := viewed{impl.FormatWorld(w), gapsText(gapsByTexts(w), true), strings.Join(texts, ";"), ""}
	if found && len(gapsByTexts(other)) == 0 {
		view.closed = impl.FormatWorld(other)
	}
	return view
}

// layeredWorld returns a world of few types in which classes are above others, those above having more instances.
func layeredWorld(r *rand.Rand) impl.World {
	w := impl.World{Classes: classesOf(someOf(r, "E O<E", "E O<E", "E O<E S<O", "E O S<EO", "E O<E S<E T<OS", "E O<E S<O T<S"))}
	for k, c := range w.Classes {
		for _, own := range []string{"i", "l(x) x x x x l(x) i", "m(x) x x x m(x) p(x,x)", "p(x,y) x y x y x y l(x)", "l(l(x)) x x l(x)", "p(x,x) x x x l(x)"} {
			if len(w.Instances) == impl.MaxInstances || r.Intn(3+k) > 1 || own[0] == own[2%len(own)] && r.Intn(3) > 0 {
				continue
			}
			leaves := strings.Split(own, " ")
			i := impl.Instance{Need: impl.Need{Class: c.Name, Type: leaves[0]}}
			for range min(r.Intn(4), 10*(len(leaves)-1)) {
				class := w.Classes[r.Intn(k+1)].Name
				if r.Intn(6) == 0 {
					class = w.Classes[r.Intn(len(w.Classes))].Name
				}
				i.Needs = append(i.Needs, impl.Need{Class: class, Type: someOf(r, leaves[1:]...)})
			}
			w.Instances = append(w.Instances, i)
		}
	}
	r.Shuffle(len(w.Instances), func(a, b int) { w.Instances[a], w.Instances[b] = w.Instances[b], w.Instances[a] })
	return w
}

// highWorld returns a world with instances of many constructors, for which evidence may be deep, long or big.
func highWorld(r *rand.Rand) impl.World {
	w := impl.World{Classes: classesOf("E O<E")}
	for _, own := range []string{"i", "l(x) x x x l(x)", "m(x) x x x p(x,x)", "p(x,y) x y l(p(x,y)) p(y,p(x,x))"} {
		leaves := strings.Split(own, " ")
		i := impl.Instance{Need: impl.Need{Class: "E", Type: leaves[0]}}
		for range min(1+r.Intn(3), 10*(len(leaves)-1)) {
			i.Needs = append(i.Needs, impl.Need{Class: "E", Type: someOf(r, leaves[1:]...)})
		}
		w.Instances = append(w.Instances, i)
	}
	for range 3 {
		i := impl.Instance{Need: impl.Need{Class: "O", Type: "l(" + highType(r, someOf(r, "i", "x"), 5) + ")"}}
		if strings.Contains(i.Type, "x") && r.Intn(2) == 0 {
			i.Needs = needsFrom(someOf(r, "E x", "O x", "E i", "E l(x)"))
		}
		if len(i.Type) <= impl.MaxHead {
			w.Instances = append(w.Instances, i)
		}
	}
	return w
}

// closableWorld returns a world that is coherent and ending, and of which most gaps can be closed.
func closableWorld(r *rand.Rand) impl.World {
	w := impl.World{Classes: classesOf(someOf(r, "E O<E", "E O<E", "E O<E S<O", "E O<E S<E"))}
	for k, c := range w.Classes {
		for _, own := range []string{"i", "l(x) x x", "m(x) x x", "p(x,y) x y"} {
			if r.Intn(4+3*k) > 3 || len(w.Instances) == impl.MaxInstances {
				continue
			}
			leaves := strings.Split(own, " ")
			i := impl.Instance{Need: impl.Need{Class: c.Name, Type: leaves[0]}}
			for range r.Intn(len(leaves)) {
				i.Needs = append(i.Needs, impl.Need{Class: w.Classes[r.Intn(k+1)].Name, Type: someOf(r, leaves[1:]...)})
			}
			w.Instances = append(w.Instances, i)
		}
	}
	r.Shuffle(len(w.Instances), func(a, b int) { w.Instances[a], w.Instances[b] = w.Instances[b], w.Instances[a] })
	return w
}

func TestViewsOfManyWorlds(t *testing.T) {
	r := rand.New(rand.NewSource(26))
	counts, reasons := map[string]int{}, map[string]int{}
	for k := range 3000 {
		w := []func(r *rand.Rand) impl.World{layeredWorld, layeredWorld, aboveWorld, highWorld, closableWorld}[k%5](r)
		if !impl.WorldValid(w) {
			t.Fatalf("the world %q of this test is not valid", w)
		}
		want := viewByTexts(w)
		checkView(t, w, want)
		for i := range w.Instances {
			for _, c := range w.Classes {
				evidence, why := aboveByTexts(w, i, c.Name)
				if got, reason := impl.EvidenceAbove(w, i, c.Name); got != evidence || reason != why {
					t.Errorf("EvidenceAbove(%q, %d, %q) = %q, %q, want %q, %q", want.world, i, c.Name, got, reason, evidence, why)
				}
				reasons[why]++
			}
		}
		if t.Failed() {
			return
		}
		full := !strings.Contains(want.full, "no")
		for name, found := range map[string]bool{
			"closed": want.gaps == "-", "with gaps": want.gaps != "-", "made closed": want.closed != "" && want.gaps != "-", "without full needs": !full, "not made closed with full needs": full && want.closed == "", "with gaps of two instances": strings.Count(want.gaps, " ") > 1,
		} {
			if found {
				counts[name]++
			}
		}
	}
	checkReasons(t, reasons, 15)
	for _, name := range []string{"closed", "with gaps", "made closed", "without full needs", "not made closed with full needs", "with gaps of two instances"} {
		if counts[name] < 40 {
			t.Errorf("%d worlds of this test are %s", counts[name], name)
		}
	}
}

func TestDictionariesOfClassesAboveInManyWorlds(t *testing.T) {
	r := rand.New(rand.NewSource(27))
	counts := map[string]int{}
	for k := range 2500 {
		w := []func(r *rand.Rand) impl.World{aboveWorld, layeredWorld}[k%2](r)
		n := impl.Need{Type: someOf(r, highType(r, someOf(r, "i", "i", "b", "x"), r.Intn(19)), highType(r, "i", 12+r.Intn(7)), someForm(r, w, "ibx"))}
		for _, own := range w.Classes {
			n.Class = own.Name
			for _, c := range w.Classes {
				dict, why := "", "wrong"
				if strings.Contains(reached(w.Classes, own.Name), c.Name) {
					found := searchByTexts(w, impl.Need{Class: c.Name, Type: n.Type}, noChoice)
					dict, why = found.dict, found.why
				}
				checkDictAbove(t, w, n, c.Name, dict, why)
				counts[why]++
			}
		}
		if t.Failed() {
			return
		}
	}
	checkReasons(t, counts, 20)
}

// TestFullNeedsAreEnough holds that from full needs, together with the own class, all classes above follow, and that
// only needs of variables are put behind those of the instance.
func TestFullNeedsAreEnough(t *testing.T) {
	r := rand.New(rand.NewSource(28))
	more := 0
	for range 2000 {
		w := layeredWorld(r)
		for i, one := range w.Instances {
			list, ok := impl.FullNeeds(w, i)
			if !ok {
				continue
			}
			if len(list) < len(one.Needs) || !slices.Equal(list[:len(one.Needs)], one.Needs) {
				t.Errorf("FullNeeds(%q, %d) = %q", impl.FormatWorld(w), i, list)
			}
			for k, n := range list[len(one.Needs):] {
				if !strings.Contains(variables, n.Type) || !strings.Contains(one.Type, n.Type) || slices.Index(list, n) != len(one.Needs)+k {
					t.Errorf("FullNeeds(%q, %d) = %q, with %q", impl.FormatWorld(w), i, list, n)
				}
				more++
			}
			for _, class := range strings.Split(impl.SupersOf(w, one.Class), "") {
				if class != "" && len(list) <= impl.MaxGivens && !impl.Follows(w, list, impl.Need{Class: class, Type: one.Type}) {
					t.Errorf("in %q, %s %s does not follow from %q", impl.FormatWorld(w), class, one.Type, list)
				}
			}
		}
	}
	if more < 300 {
		t.Errorf("%d needs are added in this test", more)
	}
}

func TestWorldsThatAreMadeClosed(t *testing.T) {
	r := rand.New(rand.NewSource(29))
	changed := 0
	for k := range 3000 {
		w := []func(r *rand.Rand) impl.World{layeredWorld, closableWorld}[k%2](r)
		other, ok := impl.CloseWorld(w)
		if !ok {
			if impl.IsClosedAbove(w) {
				t.Errorf("CloseWorld(%q) returns false", impl.FormatWorld(w))
			}
			continue
		}
		if !impl.WorldValid(other) || !impl.IsClosedAbove(other) || impl.IsClosedAbove(w) != sameWorld(w, other) {
			t.Errorf("CloseWorld(%q) = %q", impl.FormatWorld(w), impl.FormatWorld(other))
		}
		if again, ok := impl.CloseWorld(other); !ok || !sameWorld(again, other) {
			t.Errorf("CloseWorld(%q) = %q, %v", impl.FormatWorld(other), impl.FormatWorld(again), ok)
		}
		if !sameWorld(w, other) {
			changed++
		}
	}
	if changed < 100 {
		t.Errorf("%d worlds of this test are changed", changed)
	}
}

// checkAboveMet holds of a need that is met that it has all classes above, or that the search for one is long, if its
// world is closed, coherent and ending. It returns how many of them it has, and how many it does not have.
func checkAboveMet(t *testing.T, w impl.World, n impl.Need) (int, int) {
	t.Helper()
	above := impl.SupersOf(w, n.Class)
	if impl.LevelOf(w, n) < 0 && !impl.HasInstance(w, n) {
		return 0, 0
	}
	met := 0
	for k := range above {
		_, why := impl.DictAbove(w, n, above[k:k+1])
		if why != "" && why != "long" && impl.IsClosedAbove(w) {
			t.Errorf("in the closed world %q, %q is met, but %s is not: %s", impl.FormatWorld(w), n, above[k:k+1], why)
		}
		if why == "" {
			met++
		}
	}
	return met, len(above) - met
}

func TestWhatIsAboveInClosedWorlds(t *testing.T) {
	r := rand.New(rand.NewSource(30))
	met, open := 0, 0
	for k := range 2000 {
		w := closableWorld(r)
		if k%2 == 0 {
			w = endingPart(t, coherentPart(t, layeredWorld(r)))
		}
		if !impl.IsCoherent(w) || !impl.IsEnding(w) {
			t.Fatalf("the world %q of this test is not coherent or not ending", impl.FormatWorld(w))
		}
		other, ok := impl.CloseWorld(w)
		for range 6 {
			n := impl.Need{Class: w.Classes[r.Intn(len(w.Classes))].Name, Type: highType(r, someOf(r, "i", "i", "x"), r.Intn(5))}
			_, before := checkAboveMet(t, w, n)
			open += before
			if ok {
				after, _ := checkAboveMet(t, other, n)
				met += after
			}
		}
	}
	if met < 500 || open < 200 {
		t.Errorf("%d needs of this test are met in closed worlds, and in others %d have no class above", met, open)
	}
}

// TestWhatIsAboveMayBeLong has a need that is met, and one above for which too many others are asked for.
func TestWhatIsAboveMayBeLong(t *testing.T) {
	world := "E O<E;E i;E l(x):E x&E x&E x;O i;O l(x):O x"
	w := validWorld(t, world)
	checkClosed(t, world)
	if !impl.IsCoherent(w) || !impl.IsEnding(w) {
		t.Errorf("the world %q of this test is not coherent or not ending", world)
	}
	for count := range 8 {
		n := needOf("O " + nested(count))
		dict, why := impl.FindDict(w, impl.Need{Class: "E", Type: n.Type})
		checkDictAbove(t, w, n, "E", dict, why)
		if !impl.HasInstance(w, n) || (why == "long") != (count > 4) || why != "" && why != "long" {
			t.Errorf("the reason for E of %q is %q", n, why)
		}
	}
}

func TestListsOfGapsAreNewMemory(t *testing.T) {
	w := withRoom(validWorld(t, "A B<A C<B;C i;B i;C b"))
	first, _ := impl.GapsOf(w)
	second, _ := impl.GapsOf(w)
	clear(first[:cap(first)])
	if gapsText(second, true) != "0A 1A 2A 2B" || gapsText(impl.GapsOf(w)) != "0A 1A 2A 2B" {
		t.Errorf("results of GapsOf share memory: %v", second)
	}
	text := "E O<E;E l(x):E x;O l(x);O l(y):O y&E i;O p(x,y):E x;E p(x,y):E x&E y"
	for i, want := range []string{"E x", "E x", "O y&E i", "E x&E y"} {
		w := withRoom(worldOf(text))
		first, _ := impl.FullNeeds(w, i)
		second, _ := impl.FullNeeds(w, i)
		for k := range first[:cap(first)] {
			first[:cap(first)][k] = needOf("Z q")
		}
		if needsText(second, true) != want || needsText(impl.FullNeeds(w, i)) != want || !reflect.DeepEqual(behind(w), behind(withRoom(worldOf(text)))) {
			t.Errorf("results of FullNeeds share memory: %q of %q", second, w)
		}
		spoil(w)
		if needsText(second, true) != want {
			t.Errorf("a result of FullNeeds shares memory with its argument: %q", second)
		}
	}
}

func TestClosedWorldsAreNewMemory(t *testing.T) {
	for text, want := range map[string]string{
		"E O<E;E l(x):E x;O l(x);O l(y):O y&E i;O p(x,y):E x;E p(x,y):E x&E y": "E O<E;E l(x):E x;O l(x):E x;O l(y):O y&E i;O p(x,y):E x&E y;E p(x,y):E x&E y",
		"E O<E;E l(x):E x;O l(x):O x&E x;E i;O i":                              "E O<E;E l(x):E x;O l(x):O x&E x;E i;O i",
	} {
		w := withRoom(worldOf(text))
		first, _ := impl.CloseWorld(w)
		second, _ := impl.CloseWorld(w)
		checkOwnNeeds(t, first)
		spoil(first)
		if !sameWorld(second, worldOf(want)) || !reflect.DeepEqual(behind(w), behind(withRoom(worldOf(text)))) {
			t.Errorf("results of CloseWorld share memory: %q of %q", second, w)
		}
		spoil(w)
		if !sameWorld(second, worldOf(want)) {
			t.Errorf("a result of CloseWorld shares memory with its argument: %q", second)
		}
	}
	// Needs that share memory in an argument.
	list := []impl.Need{needOf("E x"), needOf("O x"), needOf("E i")}
	w := impl.World{Classes: classesOf("E O<E"), Instances: []impl.Instance{{Need: needOf("E l(x)"), Needs: list[:1]}, {Need: needOf("O l(x)"), Needs: list[2:]}, {Need: needOf("O l(x)"), Needs: list[:0]}}}
	other, ok := impl.CloseWorld(w)
	checkMade(t, "CloseWorld", other, ok, "E O<E;E l(x):E x;O l(x):E i&E x;O l(x):E x")
	checkOwnNeeds(t, other)
	full, _ := impl.FullNeeds(w, 2)
	if needsText(full, true) != "E x" || !slices.Equal(list, []impl.Need{needOf("E x"), needOf("O x"), needOf("E i")}) {
		t.Errorf("a result shares memory with an argument: %q", list)
	}
}

func TestViewsLeaveWorldsAsTheyAre(t *testing.T) {
	for _, s := range append(worldTexts(), givenWorld, askedWorld(300, ""), deepWorld("x", ""), "E O<E;E l(x):E x;O l(x);E m(x):O l(x);O m(x)", "E O<E;E p(x,y):E x&E y;O p(p(X,Y),p(Z,z)):O i&O i", "O E", "E;E x", "E O<E;O l(x):E y", "A B C D E;A i") {
		w, gaps := withRoom(worldOf(s)), []impl.Gap{{Instance: 1, Class: "E"}, {Instance: 2, Class: "kept"}}
		impl.GapsOf(w)
		impl.IsClosedAbove(w)
		impl.CloseWorld(w)
		impl.FormatGaps(gaps[:1])
		for i := -1; i < 11; i++ {
			impl.FullNeeds(w, i)
			for _, class := range []string{"A", "E", "O", "q", ""} {
				impl.EvidenceAbove(w, i, class)
				impl.DictAbove(w, needOf("O l(i)"), class)
			}
		}
		if !reflect.DeepEqual(behind(w), behind(withRoom(worldOf(s)))) || !slices.Equal(gaps, []impl.Gap{{Instance: 1, Class: "E"}, {Instance: 2, Class: "kept"}}) {
			t.Errorf("the world %q became %q, the gaps %v", s, w, gaps)
		}
	}
}

// TestViewsAtTheSameTime has calls for one world, which have to return the same each time.
func TestViewsAtTheSameTime(t *testing.T) {
	list := []viewed{
		viewByTexts(worldOf("A B<A C<B;A l(x):A x;B l(x):B x;C l(x);C l(y):A y;B l(Z)")),
		{"E O<E;O l(x);E l(x):E x;O m(x):E x;E m(x):E x;O p(x,y):O y;E p(x,y):E y;O l(y)", "0E 6E", "E x;E x;E x;E x;O y;E y;E y", "E O<E;O l(x):E x;E l(x):E x;O m(x):E x;E m(x):E x;O p(x,y):O y;E p(x,y):E y;O l(y):E y"},
	}
	for _, want := range list {
		w := validWorld(t, want.world)
		runAtOnce(20, func() { checkView(t, w, want) })
	}
}

// FuzzViews runs its seeds in each test run.
func FuzzViews(f *testing.F) {
	for _, s := range []string{"E O<E;E i;E l(x):E x;O l(x)|2|E|O l(i)", "E O<E;E i;E l(x):E x;O l(x):O x;O i|2|E|O l(i)", askedWorld(300, "") + "|5|E|O m(i)", "E|0|E|E i", "|-1||", "A B<A C<B;C i|0|AB|C x"} {
		parts := strings.Split(s, "|")
		i, _ := strconv.Atoi(parts[1])
		f.Add(parts[0], i, parts[2], parts[3])
	}
	f.Fuzz(func(t *testing.T, world string, i int, class, need string) {
		w, n := worldOf(world), needOf(need)
		gaps, valid := impl.GapsOf(w)
		if valid != impl.WorldValid(w) || impl.IsClosedAbove(w) != (valid && len(gaps) == 0) {
			t.Errorf("GapsOf(%q) = %v, %v", world, gaps, valid)
		}
		evidence, why := impl.EvidenceAbove(w, i, class)
		if slices.Contains(gaps, impl.Gap{Instance: i, Class: class}) != (why != "" && why != "wrong") {
			t.Errorf("EvidenceAbove(%q, %d, %q) = %q, %q", world, i, class, evidence, why)
		}
		dict, reason := impl.DictAbove(w, n, class)
		if found, other := impl.FindDict(w, impl.Need{Class: class, Type: n.Type}); reason != "wrong" && (dict != found || reason != other) {
			t.Errorf("DictAbove(%q, %q, %q) = %q, %q", world, need, class, dict, reason)
		}
		if other, ok := impl.CloseWorld(w); ok && (!valid || !impl.IsClosedAbove(other)) {
			t.Errorf("CloseWorld(%q) = %q", world, impl.FormatWorld(other))
		}
		impl.FullNeeds(w, i)
		impl.FormatGaps(gaps)
	})
}
