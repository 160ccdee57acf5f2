package tests

import (
	"math/rand"
	"reflect"
	"slices"
	"strconv"
	"strings"
	"testing"

	"loop.example/instancesearch/impl"
)

func TestLimitsOfSearches(t *testing.T) {
	if impl.MaxDepth != 30 || impl.MaxAsked != 300 {
		t.Error("the limits of searches are others")
	}
}

// An outcome tells of a search in texts: lists of needs have & between them, and are - if they are
// empty, the empty text if there is no list; failing is the empty text if there is no such need.
type outcome struct {
	dict, why, asked, failing, stack string
}

func checkSearch(t *testing.T, w impl.World, n impl.Need, want outcome) {
	t.Helper()
	if dict, why := impl.FindDict(w, n); dict != want.dict || why != want.why {
		t.Errorf("FindDict(%.300q, %.300q) = %q, %q, want %q, %q", w, n, dict, why, want.dict, want.why)
	}
	if got := impl.HasInstance(w, n); got != (want.why == "") {
		t.Errorf("HasInstance(%.300q, %.300q) = %v", w, n, got)
	}
	if got := needsText(impl.AskedFor(w, n)); got != want.asked {
		t.Errorf("AskedFor(%.300q, %.300q) = %q, want %q", w, n, got, want.asked)
	}
	failing := ""
	if need, ok := impl.FailingNeed(w, n); ok || need != (impl.Need{}) {
		failing = listText([]impl.Need{need}, ok, "&", impl.FormatNeed)
	}
	if failing != want.failing {
		t.Errorf("FailingNeed(%.300q, %.300q) = %q, want %q", w, n, failing, want.failing)
	}
	if got := needsText(impl.StackOf(w, n)); got != want.stack {
		t.Errorf("StackOf(%.300q, %.300q) = %q, want %q", w, n, got, want.stack)
	}
}

func checkSpecialDict(t *testing.T, w impl.World, n impl.Need, dict, why string) {
	t.Helper()
	if got, reason := impl.SpecialDict(w, n); got != dict || reason != why {
		t.Errorf("SpecialDict(%.300q, %.300q) = %q, %q, want %q, %q", w, n, got, reason, dict, why)
	}
}

func validWorld(t *testing.T, text string) impl.World {
	t.Helper()
	w := worldOf(text)
	if !impl.WorldValid(w) {
		t.Fatalf("the world %q of this test is not valid", text)
	}
	return w
}

func validNeed(t *testing.T, w impl.World, text string) impl.Need {
	t.Helper()
	if !impl.NeedValid(w, needOf(text)) {
		t.Fatalf("the need %q of this test is not valid", text)
	}
	return needOf(text)
}

type met struct {
	need, dict, asked string
}

// checkMet is for needs that are met, with the same dictionary if the most special candidate is taken.
func checkMet(t *testing.T, world string, list []met) {
	t.Helper()
	w := validWorld(t, world)
	for _, c := range list {
		n := validNeed(t, w, c.need)
		checkSearch(t, w, n, outcome{dict: c.dict, asked: c.asked})
		checkSpecialDict(t, w, n, c.dict, "")
	}
}

type unmet struct {
	need, why, asked, stack string
}

// checkUnmet is for needs that fail at the last one that is asked for.
func checkUnmet(t *testing.T, world string, list []unmet) {
	t.Helper()
	w := validWorld(t, world)
	for _, c := range list {
		n := validNeed(t, w, c.need)
		last := c.asked[strings.LastIndex(c.asked, "&")+1:]
		checkSearch(t, w, n, outcome{why: c.why, asked: c.asked, failing: last, stack: c.stack})
		if c.why != "many" {
			checkSpecialDict(t, w, n, "", c.why)
		}
	}
}

func TestDictionariesThatAreFound(t *testing.T) {
	checkMet(t, "E;E i;E p(x,y):E x&E y", []met{
		{"E i", "0", "E i"}, {"E p(i,i)", "1(0,0)", "E p(i,i)&E i&E i"},
		{"E p(i,p(i,i))", "1(0,1(0,0))", "E p(i,p(i,i))&E i&E p(i,i)&E i&E i"},
		{"E p(p(i,i),i)", "1(1(0,0),0)", "E p(p(i,i),i)&E p(i,i)&E i&E i&E i"},
	})
	checkMet(t, "E O<E;E i;E b;E l(x):E x;E p(x,y):E x&E y;O i;O l(x):O x", []met{
		{"E p(i,l(b))", "3(0,2(1))", "E p(i,l(b))&E i&E l(b)&E b"}, {"E l(l(i))", "2(2(0))", "E l(l(i))&E l(i)&E i"},
		{"O i", "4", "O i"}, {"O l(l(i))", "5(5(4))", "O l(l(i))&O l(i)&O i"},
	})
	// Needs of other classes, in the order in which the instance has them, several times, and of types that it names itself.
	checkMet(t, "E O S;E i;E b;O i;O b;S p(x,y):O y&E x&O x;S l(x):E x&E x&E x;S m(x):S p(b,x)&S l(b);S u:E i", []met{
		{"S p(i,b)", "4(3,0,2)", "S p(i,b)&O b&E i&O i"}, {"S p(b,i)", "4(2,1,3)", "S p(b,i)&O i&E b&O b"}, {"S l(b)", "5(1,1,1)", "S l(b)&E b&E b&E b"},
		{"S m(i)", "6(4(2,1,3),5(1,1,1))", "S m(i)&S p(b,i)&O i&E b&O b&S l(b)&E b&E b&E b"}, {"S u", "7(0)", "S u&E i"},
	})
	// The last one of ten instances.
	checkMet(t, "A B C D;A i;A b;A u;A l(x);A m(x);B i;B b;B u;B l(x):D l(x)&A x&A b;D l(x)", []met{
		{"D l(u)", "9", "D l(u)"}, {"B l(i)", "8(9,0,1)", "B l(i)&D l(i)&A i&A b"}, {"B l(u)", "8(9,2,1)", "B l(u)&D l(u)&A u&A b"}, {"A m(m(b))", "4", "A m(m(b))"},
	})
}

func TestSearchesWithVariables(t *testing.T) {
	world := "E O;E l(x);E p(x,y):E l(y)&E l(x);O p(x,x):E l(x);O p(l(x),i);O l(x):O x"
	checkMet(t, world, []met{
		{"E l(x)", "0", "E l(x)"}, {"E l(p(x,Z))", "0", "E l(p(x,Z))"}, {"E p(y,x)", "1(0,0)", "E p(y,x)&E l(x)&E l(y)"}, {"E p(x,y)", "1(0,0)", "E p(x,y)&E l(y)&E l(x)"},
		{"E p(l(y),l(x))", "1(0,0)", "E p(l(y),l(x))&E l(l(x))&E l(l(y))"}, {"O p(y,y)", "2(0)", "O p(y,y)&E l(y)"}, {"O p(l(y),i)", "3", "O p(l(y),i)"},
	})
	// A variable has no instances, whatever it might stand for.
	checkUnmet(t, world, []unmet{
		{"E x", "none", "E x", "-"}, {"O Z", "none", "O Z", "-"}, {"O p(x,y)", "none", "O p(x,y)", "-"}, {"O p(l(x),y)", "none", "O p(l(x),y)", "-"}, {"O p(y,i)", "none", "O p(y,i)", "-"},
		{"O l(y)", "none", "O l(y)&O y", "O l(y)"}, {"O l(l(x))", "none", "O l(l(x))&O l(x)&O x", "O l(l(x))&O l(x)"},
	})
}

func TestNeedsWithoutCandidates(t *testing.T) {
	checkUnmet(t, "E O<E S<O;S i;E l(x):E x;O b;E p(x,y):E y&E x&O x;E b;O p(x,y):O x&O y", []unmet{
		{"E i", "none", "E i", "-"}, {"O i", "none", "O i", "-"}, {"S b", "none", "S b", "-"}, {"E x", "none", "E x", "-"}, {"O l(b)", "none", "O l(b)", "-"}, {"E m(b)", "none", "E m(b)", "-"},
		{"E l(i)", "none", "E l(i)&E i", "E l(i)"}, {"E l(l(u))", "none", "E l(l(u))&E l(u)&E u", "E l(l(u))&E l(u)"},
		// Nothing is asked for behind the need that fails, and those met before are not in the stack.
		{"E p(i,b)", "none", "E p(i,b)&E b&E i", "E p(i,b)"}, {"E p(b,i)", "none", "E p(b,i)&E i", "E p(b,i)"}, {"E p(i,u)", "none", "E p(i,u)&E u", "E p(i,u)"},
		{"E p(l(b),l(b))", "none", "E p(l(b),l(b))&E l(b)&E b&E l(b)&E b&O l(b)", "E p(l(b),l(b))"},
		{"O p(b,p(b,p(u,b)))", "none", "O p(b,p(b,p(u,b)))&O b&O p(b,p(u,b))&O b&O p(u,b)&O u", "O p(b,p(b,p(u,b)))&O p(b,p(u,b))&O p(u,b)"},
		{"O p(p(b,b),p(u,b))", "none", "O p(p(b,b),p(u,b))&O p(b,b)&O b&O b&O p(u,b)&O u", "O p(p(b,b),p(u,b))&O p(u,b)"},
	})
	checkUnmet(t, "E O<E", []unmet{{"E i", "none", "E i", "-"}, {"O p(x,i)", "none", "O p(x,i)", "-"}})
}

func TestNeedsWithManyCandidates(t *testing.T) {
	// Also if one candidate alone could be met, or they are the same.
	checkUnmet(t, "E O;E i;E l(x):E x;E l(i):O u;E m(x);E m(x);O m(x):E m(x);O b:E i;O b:O b", []unmet{
		{"E l(i)", "many", "E l(i)", "-"}, {"E l(l(i))", "many", "E l(l(i))&E l(i)", "E l(l(i))"}, {"E m(x)", "many", "E m(x)", "-"}, {"O m(i)", "many", "O m(i)&E m(i)", "O m(i)"}, {"O b", "many", "O b", "-"},
	})
	// Instances that a need might be of the form of are no candidates.
	checkMet(t, "E;E l(x);E l(l(i));E l(l(b))", []met{{"E l(l(x))", "0", "E l(l(x))"}, {"E l(x)", "0", "E l(x)"}, {"E l(l(u))", "0", "E l(l(u))"}})
}

func TestNeedsThatAreBig(t *testing.T) {
	long := "l(" + long26 + ")"
	world := "E O;E l(x):E b&E p(x,p(x,i));E b;O l(x):E i&O p(x,p(x,l(i)));O p(x,y):O x;O m(x):O x;E p(x,y);E m(x):E p(x,x)"
	checkUnmet(t, world, []unmet{
		// The need of 61 bytes stands behind another one, which is not asked for.
		{"E " + long, "big", "E " + long, "-"}, {"O p(" + long + ",b)", "big", "O p(" + long + ",b)&O " + long, "O p(" + long + ",b)"}, {"O m(" + long + ")", "big", "O m(" + long + ")&O " + long, "O m(" + long + ")"},
		{"O l(i)", "none", "O l(i)&E i", "O l(i)"}, {"E m(" + nested(10) + ")", "big", "E m(" + nested(10) + ")", "-"},
	})
	// A need of 60 bytes is not.
	checkMet(t, world, []met{
		{"E m(" + long28 + ")", "6(5)", "E m(" + long28 + ")&E " + twice(long28)}, {"E l(i)", "0(1,5)", "E l(i)&E b&E p(i,p(i,i))"},
	})
	// Whether a need is big is not asked if it has many candidates.
	checkUnmet(t, "E;E l(x):E p(x,p(x,i));E l(y):E p(y,p(y,i))", []unmet{{"E " + long, "many", "E " + long, "-"}})
}

// repeated returns a need several times, as a list.
func repeated(need string, count int) string {
	return strings.TrimSuffix(strings.Repeat(need+"&", count), "&")
}

func TestNeedsThatAskForThemselves(t *testing.T) {
	checkUnmet(t, "E O;E i:E i;E l(x):E l(x)&E l(x);E b:O b;O b:E u;E u:E b;O l(x):O l(x);O i;E m(x):O i&E m(x);O m(x):O m(x)&O i", []unmet{
		{"E i", "deep", repeated("E i", 32), repeated("E i", 31)}, {"E l(i)", "deep", repeated("E l(i)", 32), repeated("E l(i)", 31)}, {"O l(x)", "deep", repeated("O l(x)", 32), repeated("O l(x)", 31)},
		// Three needs in a circle, of which the last one may be each.
		{"E b", "deep", repeated("E b&O b&E u", 10) + "&E b&O b", repeated("E b&O b&E u", 10) + "&E b"},
		{"O b", "deep", repeated("O b&E u&E b", 10) + "&O b&E u", repeated("O b&E u&E b", 10) + "&O b"},
		{"E u", "deep", repeated("E u&E b&O b", 10) + "&E u&E b", repeated("E u&E b&O b", 10) + "&E u"},
		// What is met before the need itself has to be met within the depth as well.
		{"E m(b)", "deep", repeated("E m(b)&O i", 31), repeated("E m(b)", 31)},
		{"O m(b)", "deep", repeated("O m(b)", 32), repeated("O m(b)", 31)},
	})
	// It is of no matter what would be asked for later.
	checkUnmet(t, "E O;E l(x):E x&E l(x);E p(x,y):E p(x,y)&O x;O l(x):O x&O x&O l(x);O b", []unmet{
		{"E l(i)", "none", "E l(i)&E i", "E l(i)"}, {"E p(i,i)", "deep", repeated("E p(i,i)", 32), repeated("E p(i,i)", 31)}, {"O l(i)", "none", "O l(i)&O i", "O l(i)"},
		{"O l(b)", "deep", repeated("O l(b)&O b&O b", 30) + "&O l(b)&O b", repeated("O l(b)", 31)},
	})
}

// growing returns the needs of a class for l of i, once to some times.
func growing(class string, from, to int) string {
	var list []string
	for k := from; k <= to; k++ {
		list = append(list, class+" "+nested(k))
	}
	return strings.Join(list, "&")
}

func TestTypesThatGetBigger(t *testing.T) {
	// A type of 58 bytes is the biggest of these.
	checkUnmet(t, "E O;E l(x):E l(l(x));O l(x):E l(x)&O l(x);E i", []unmet{
		{"E l(i)", "big", growing("E", 1, 19), growing("E", 1, 18)}, {"E l(l(l(i)))", "big", growing("E", 3, 19), growing("E", 3, 18)}, {"E " + nested(19), "big", "E " + nested(19), "-"},
		{"O l(i)", "big", "O l(i)&" + growing("E", 1, 19), "O l(i)&" + growing("E", 1, 18)},
	})
	// Here it is one of 60 bytes.
	var list []string
	for x, y := "i", "i"; len(x)+len(y) <= 56; x, y = y, "l("+x+")" {
		list = append(list, "E p("+x+","+y+")")
	}
	checkUnmet(t, "E;E p(x,y):E p(y,l(x))", []unmet{{"E p(i,i)", "big", strings.Join(list, "&"), strings.Join(list[:len(list)-1], "&")}})
	if last := list[len(list)-1]; len(list) != 19 || len(last) != 62 {
		t.Errorf("%d needs, of which the last one is %q", len(list), last)
	}
	// By more than double each time.
	two := "p(i,i)"
	checkUnmet(t, "E;E l(x):E l(p(x,x))", []unmet{
		{"E l(i)", "big", "E l(i)&E l(" + two + ")&E l(" + twice(two) + ")&E l(" + twice(twice(two)) + ")", "E l(i)&E l(" + two + ")&E l(" + twice(two) + ")"},
	})
	// So slowly that the depth is reached before.
	list = nil
	for k := 1; k <= 16; k++ {
		list = append(list, "A "+nested(k), "B "+nested(k))
	}
	checkUnmet(t, "A B;A l(x):B l(x);B l(x):A l(l(x))", []unmet{{"A l(i)", "deep", strings.Join(list, "&"), strings.Join(list[:31], "&")}})
	// They get bigger and smaller again, and have to end within the depth.
	checkMet(t, "E O;E m(x):E l(l(x));E l(x):E x;E i;E p(x,y):E m(x)&E y", []met{
		{"E m(i)", "0(1(1(2)))", "E m(i)&E l(l(i))&E l(i)&E i"}, {"E p(i,i)", "3(0(1(1(2))),2)", "E p(i,i)&E m(i)&E l(l(i))&E l(i)&E i&E i"},
	})
}

// chain has three needs for each l, one below the other.
const chain = "A B C;A i;A l(x):B l(x);B l(x):C l(x);C l(x):A x;A u;A u;A m(x):A p(x,p(x,x))"

// chainNeeds returns the needs that a need of the chain asks for, itself included.
func chainNeeds(class byte, count int, inner string) []string {
	var list []string
	for ; count > 0; class++ {
		if class == 'D' {
			class = 'A'
			count--
		}
		t := strings.Repeat("l(", count) + inner + strings.Repeat(")", count)
		list = append(list, string(class)+" "+t)
	}
	return list
}

func TestDepthsOfSearches(t *testing.T) {
	w := validWorld(t, chain)
	middle := nested(7)
	for _, c := range []struct {
		class byte
		count int
		depth int
		// whys has what the search fails with if it comes down to i, b, u or m.
		whys [4]string
	}{
		{'A', 1, 3, [4]string{"", "none", "many", "big"}}, {'C', 10, 28, [4]string{"", "none", "many", "big"}}, {'B', 10, 29, [4]string{"", "none", "many", "big"}},
		{'A', 10, 30, [4]string{"", "none", "many", "big"}}, {'C', 11, 31, [4]string{"deep", "deep", "deep", "deep"}},
	} {
		for k, inner := range []string{"i", "b", "u", "m(" + middle + ")"} {
			list := chainNeeds(c.class, c.count, inner)
			if len(list) != c.depth+1 {
				t.Fatalf("the depth of this test is %d, not %d", len(list)-1, c.depth)
			}
			want := outcome{why: c.whys[k], asked: strings.Join(list, "&"), failing: list[c.depth], stack: strings.Join(list[:c.depth], "&")}
			if want.why == "" {
				want = outcome{dict: chainDict(list), asked: want.asked}
			}
			n := validNeed(t, w, list[0])
			checkSearch(t, w, n, want)
			if inner != "u" {
				checkSpecialDict(t, w, n, want.dict, want.why)
			}
		}
	}
	// Deeper needs are not asked for.
	for _, c := range []struct {
		class byte
		count int
	}{{'B', 11}, {'A', 11}, {'A', 15}, {'C', 19}} {
		list := chainNeeds(c.class, c.count, "i")
		checkUnmet(t, chain, []unmet{{list[0], "deep", strings.Join(list[:32], "&"), strings.Join(list[:31], "&")}})
	}
}

// chainDict returns the dictionary of needs of the chain that come down to i.
func chainDict(list []string) string {
	dict := "0"
	for k := len(list) - 2; k >= 0; k-- {
		dict = strconv.Itoa(1+int(list[k][0]-'A')) + "(" + dict + ")"
	}
	return dict
}

// counting is for types of which a search asks for so many needs as is said.
const counting = "E N O;E i;E l(x):E x&E x;E m(x):E x;N p(x,y):E x&N y;N u;N u;N l(x):N p(x,p(x,x));O p(x,y):E x&O y;O m(x):O m(x)"

// asking returns the type that has this number of needs in the class E, all of a small depth.
func asking(count int) string {
	switch {
	case count == 1:
		return "i"
	case count%2 == 1:
		return "l(" + asking(count/2) + ")"
	}
	return "m(" + asking(count-1) + ")"
}

// askedOf returns the needs that are asked for because of the type that asking returns, and their dictionary.
func askedOf(count int) ([]string, string) {
	list := []string{"E " + asking(count)}
	switch {
	case count == 1:
		return list, "0"
	case count%2 == 1:
		half, dict := askedOf(count / 2)
		return slices.Concat(list, half, half), "1(" + dict + "," + dict + ")"
	}
	rest, dict := askedOf(count - 1)
	return append(list, rest...), "2(" + dict + ")"
}

func TestNumbersOfNeedsThatAreMet(t *testing.T) {
	for _, count := range []int{1, 2, 3, 10, 150, 255, 298, 299, 300} {
		list, dict := askedOf(count)
		if len(list) != count {
			t.Fatalf("there are %d needs, not %d", len(list), count)
		}
		checkMet(t, counting, []met{{"E " + asking(count), dict, strings.Join(list, "&")}})
	}
}

// stackFrom goes back from a need to those that have asked for it, which have bigger types.
func stackFrom(list []string, k int) string {
	text := "-"
	last := len(list[k])
	for i := k - 1; i >= 0; i-- {
		if len(list[i]) > last {
			text = strings.TrimSuffix(list[i]+"&"+text, "&-")
			last = len(list[i])
		}
	}
	return text
}

func TestNumbersOfNeedsThatAreTooMany(t *testing.T) {
	w := validWorld(t, counting)
	for _, count := range []int{301, 302, 303, 304, 310, 350, 511, 600, 601, 1023} {
		list, _ := askedOf(count)
		n := validNeed(t, w, list[0])
		checkSearch(t, w, n, outcome{why: "long", asked: strings.Join(list[:300], "&"), failing: list[300], stack: stackFrom(list, 300)})
		checkSpecialDict(t, w, n, "", "long")
	}
}

func TestNeedsThatWereMetBeforeCountAgain(t *testing.T) {
	w := validWorld(t, "A B C D;D i;C i:D i&D i&D i;B i:C i&C i&C i;A i:B i&B i&B i;A l(x):A x&A x&A x")
	asked, dict := "D i", "0"
	for k, need := range []string{"C i", "B i", "A i", "A l(i)"} {
		asked = need + "&" + repeated(asked, 3)
		dict = strconv.Itoa(k+1) + "(" + dict + "," + dict + "," + dict + ")"
		checkSearch(t, w, validNeed(t, w, need), outcome{dict: dict, asked: asked})
	}
	n := validNeed(t, w, "A l(l(i))")
	list := strings.Split("A l(l(i))&"+repeated(asked, 3), "&")
	checkSearch(t, w, n, outcome{why: "long", asked: strings.Join(list[:300], "&"), failing: "D i", stack: "A l(l(i))&A l(i)&A i&B i&C i"})
}

// TestReasonsThatApplyAtOnce is about needs that would fail for more than one reason.
func TestReasonsThatApplyAtOnce(t *testing.T) {
	w := validWorld(t, counting)
	big := "l(" + nested(6) + ")"
	for _, c := range []struct{ inner, why string }{{"b", "none"}, {"u", "many"}, {big, "big"}} {
		for count, why := range map[int]string{10: c.why, 298: c.why, 299: "long"} {
			first := validNeed(t, w, "N p("+asking(count)+","+c.inner+")")
			list, _ := askedOf(count)
			list = append([]string{impl.FormatNeed(first)}, list...)
			if why != "long" {
				list = append(list, "N "+c.inner)
			}
			checkSearch(t, w, first, outcome{why: why, asked: strings.Join(list, "&"), failing: "N " + c.inner, stack: list[0]})
		}
	}
	for count, why := range map[int]string{10: "deep", 268: "deep", 269: "long"} {
		first := validNeed(t, w, "O p("+asking(count)+",m(i))")
		list, _ := askedOf(count)
		asked := impl.FormatNeed(first) + "&" + strings.Join(list, "&") + "&" + repeated("O m(i)", 30)
		if why == "deep" {
			asked += "&O m(i)"
		}
		checkSearch(t, w, first, outcome{why: why, asked: asked, failing: "O m(i)", stack: impl.FormatNeed(first) + "&" + repeated("O m(i)", 30)})
		checkSpecialDict(t, w, first, "", why)
	}
}

func TestSpecialDict(t *testing.T) {
	long := "l(" + long26 + ")"
	for _, c := range []struct{ world, need, dict, why string }{
		{"E;E i;E l(x):E x;E l(i)", "E l(i)", "2", ""}, {"E;E i;E l(x):E x;E l(i)", "E l(l(i))", "1(2)", ""},
		{"E O;E i;E p(x,y):E x&O y;O l(x);O l(i):E i;E p(x,i);E p(x,l(y)):E x", "E p(i,l(i))", "5(0)", ""}, {"E O;E i;E p(x,y):O y&E x;O l(x);O l(i):E i", "E p(p(i,l(b)),l(i))", "1(3(0),1(2,0))", ""},
		// Of those that are special to each other it is the first one.
		{"E;E i;E i", "E i", "0", ""}, {"E;E l(x);E l(y):E y", "E l(b)", "0", ""}, {"E;E l(x);E p(x,y);E p(z,z);E p(X,X):E i", "E p(i,i)", "2", ""}, {"E;E l(Y);E l(y):E y;E l(i):E b;E l(i)", "E l(x)", "0", ""},
		{"E;E l(l(i));E l(x):E l(l(i))&E l(l(i));E l(l(x))", "E l(b)", "1(0,0)", ""},
		// Its needs have to be met, though another candidate has none.
		{"E;E l(x);E l(i):E b", "E l(i)", "", "none"}, {"E;E l(x);E l(i):E l(i)", "E l(i)", "", "deep"}, {"E;E l(x):E l(x);E l(y)", "E l(b)", "", "deep"}, {"E;E l(y);E l(x):E l(x)", "E l(b)", "0", ""},
		{"E;E l(x);E l(l(y)):E p(y,p(y,p(y,y)))", "E " + nested(10), "", "big"}, {"E;E l(x):E p(x,p(x,i));E l(y)", "E " + long, "", "big"}, {"E;E l(y);E l(x):E p(x,p(x,i))", "E " + long, "0", ""},
		{"E;E i;E i;E l(x):E x&E x&E x;E l(y)", "E l(l(i))", "2(2(0,0,0),2(0,0,0),2(0,0,0))", ""}, {"E;E i;E i;E l(x):E x&E x&E x;E l(y)", "E " + nested(5), "", "long"},
		// There is none.
		{"E;E p(x,i);E p(i,x)", "E p(i,i)", "", "many"}, {"E;E p(x,i);E p(i,x);E p(x,y);E l(x):E x", "E l(p(i,i))", "", "many"}, {"E O;E i:O p(i,i)&E b;E i:O p(i,i)&E b;O p(x,x);O p(x,i)", "E i", "", "many"},
	} {
		w := validWorld(t, c.world)
		checkSpecialDict(t, w, validNeed(t, w, c.need), c.dict, c.why)
		if dict, why := impl.FindDict(w, needOf(c.need)); dict != "" || why != "many" {
			t.Errorf("FindDict(%q, %q) = %q, %q", c.world, c.need, dict, why)
		}
	}
}

func checkNoSearch(t *testing.T, w impl.World, n impl.Need) {
	t.Helper()
	checkSearch(t, w, n, outcome{why: "wrong"})
	checkSpecialDict(t, w, n, "", "wrong")
}

func TestSearchesThatAreNotValid(t *testing.T) {
	for _, w := range worldsThatAreNotValid() {
		for _, s := range []string{"E l(i)", "E l(x)", "E i", "O i", "A i", "E ", " i", " ", ""} {
			checkNoSearch(t, w, needOf(s))
		}
	}
	for _, text := range []string{"E O;E i;E l(x):E x;O i;O l(x)", "E O", "E O;E i;E i;O i:O i"} {
		w := validWorld(t, text)
		for _, s := range textsThatAreNoTypes() {
			checkNoSearch(t, w, impl.Need{Class: "E", Type: s})
			checkNoSearch(t, w, impl.Need{Class: "O", Type: s})
		}
		for _, class := range []string{"", "A", "T", "Z", "e", "i", "EO", "EE", "E ", " E", "O;", "\xff", "\x00"} {
			checkNoSearch(t, w, impl.Need{Class: class, Type: "i"})
			checkNoSearch(t, w, impl.Need{Class: class, Type: "l(i)"})
		}
		checkNoSearch(t, w, impl.Need{})
		checkNoSearch(t, w, impl.Need{Class: "E", Type: "l(" + twice(long28) + ")"})
	}
}

// A pending need of a model of a search stands with all that have asked for it.
type pending struct {
	need  impl.Need
	stack []impl.Need
}

// below returns needs that a pending one asks for.
func (p pending) below(needs []impl.Need) []pending {
	var list []pending
	for _, n := range needs {
		list = append(list, pending{need: n, stack: append(slices.Clone(p.stack), p.need)})
	}
	return list
}

// stepByTexts returns the candidate of a need and its needs, or the reason why it fails.
func stepByTexts(w impl.World, p pending, before int, choose func(candidates []int) int) (int, []impl.Need, string) {
	if before == 300 {
		return 0, nil, "long"
	}
	if len(p.stack) == 31 {
		return 0, nil, "deep"
	}
	candidates, _ := choiceByTexts(w, p.need)
	if len(candidates) == 0 {
		return 0, nil, "none"
	}
	i := candidates[0]
	if len(candidates) > 1 {
		i = choose(candidates)
	}
	if i < 0 {
		return 0, nil, "many"
	}
	text := needsByTexts(w.Instances[i], p.need.Type)
	if text == "" {
		return 0, nil, "big"
	}
	var needs []impl.Need
	for _, s := range strings.Split(strings.TrimSuffix(text, "-"), "&") {
		if s != "" {
			needs = append(needs, needOf(s))
		}
	}
	return i, needs, ""
}

// searchByTexts keeps one list of all needs that are still to be asked for, and puts the dictionary
// together at the end, from the last need to the first one.
func searchByTexts(w impl.World, n impl.Need, choose func(candidates []int) int) outcome {
	var asked []impl.Need
	var digits []string
	var counts []int
	for todo := []pending{{need: n}}; len(todo) > 0; {
		p := todo[0]
		i, needs, why := stepByTexts(w, p, len(asked), choose)
		if why != "long" {
			asked = append(asked, p.need)
		}
		if why != "" {
			return outcome{why: why, asked: needsText(asked, true), failing: impl.FormatNeed(p.need), stack: needsText(p.stack, true)}
		}
		digits, counts = append(digits, strconv.Itoa(i)), append(counts, len(needs))
		todo = append(p.below(needs), todo[1:]...)
	}
	return outcome{dict: dictFrom(digits, counts), asked: needsText(asked, true)}
}

// dictFrom returns the dictionary of digits, or of other marks, in the order in which they stand in it, each with
// as many parts as is said.
func dictFrom(digits []string, counts []int) string {
	var dicts []string
	for k := len(digits) - 1; k >= 0; k-- {
		dict := digits[k]
		if counts[k] > 0 {
			dict += "(" + strings.Join(dicts[:counts[k]], ",") + ")"
		}
		dicts = append([]string{dict}, dicts[counts[k]:]...)
	}
	return dicts[0]
}

// checkSearchByTexts returns why searches fail, without the most special candidate and with it.
func checkSearchByTexts(t *testing.T, w impl.World, n impl.Need) (string, string) {
	t.Helper()
	want := searchByTexts(w, n, func([]int) int { return -1 })
	checkSearch(t, w, n, want)
	matrix := specialByTexts(w)
	special := searchByTexts(w, n, func(candidates []int) int { return mostByTexts(matrix, candidates) })
	checkSpecialDict(t, w, n, special.dict, special.why)
	return want.why, special.why
}

// checkReasons reports reasons that the searches of a test had too rarely.
func checkReasons(t *testing.T, counts map[string]int, least int) {
	t.Helper()
	for _, why := range []string{"", "long", "deep", "none", "many", "big"} {
		if counts[why] < least {
			t.Errorf("of the searches of this test, %d have the reason %q", counts[why], why)
		}
	}
}

func someOf(r *rand.Rand, list ...string) string { return list[r.Intn(len(list))] }

// searchedInstance returns an instance of few types, so that needs of others often have candidates.
func searchedInstance(r *rand.Rand, classes string) impl.Instance {
	t := someOf(r, "i", "b", "l(x)", "l(x)", "m(x)", "p(x,y)", "p(x,y)", "l(l(x))", "p(x,x)", "p(x,i)", "p(i,x)", "l(i)", "p(l(x),y)")
	leaves := []string{"i", "b"}
	for _, v := range []string{"x", "y"} {
		if strings.Contains(t, v) {
			leaves = append(leaves, v, v, v, "l("+v+")", "m("+v+")", "p("+v+",x)", t)
		}
	}
	i := impl.Instance{Need: impl.Need{Class: someOf(r, strings.Split(classes, "")...), Type: t}}
	for range r.Intn(4) {
		i.Needs = append(i.Needs, impl.Need{Class: someOf(r, strings.Split(classes, "")...), Type: someOf(r, leaves...)})
	}
	return i
}

func searchedWorld(r *rand.Rand) impl.World {
	classes := someOf(r, "E", "E", "EO")
	w := impl.World{Classes: classesOf(strings.Join(strings.Split(classes, ""), " "))}
	for range 2 + r.Intn(9) {
		w.Instances = append(w.Instances, searchedInstance(r, classes))
	}
	return w
}

// fullWorld returns a world in which most needs are met, with one instance for each letter and class,
// and at times another one.
func fullWorld(r *rand.Rand) impl.World {
	w := impl.World{Classes: classesOf("E O")}
	for _, class := range []string{"E", "O"} {
		for _, own := range []string{"i", "l(x) x x x x l(x)", "m(x) x x x i p(x,x)", "p(x,y) x y x y i"} {
			leaves := strings.Split(own, " ")
			i := impl.Instance{Need: impl.Need{Class: class, Type: leaves[0]}}
			for range r.Intn(4) {
				if len(leaves) > 1 {
					i.Needs = append(i.Needs, impl.Need{Class: someOf(r, "E", "O"), Type: someOf(r, leaves[1:]...)})
				}
			}
			w.Instances = append(w.Instances, i)
		}
	}
	if r.Intn(2) == 0 {
		w.Instances = append(w.Instances, searchedInstance(r, "EO"))
	}
	r.Shuffle(len(w.Instances), func(a, b int) { w.Instances[a], w.Instances[b] = w.Instances[b], w.Instances[a] })
	return w
}

// highType returns a type of some constructors, most of which have one part.
func highType(r *rand.Rand, leaf string, count int) string {
	t := leaf
	for range count {
		next := someOf(r, "l", "l", "l", "m", "p") + "(" + t + ")"
		if next[0] == 'p' {
			next = "p(" + t + "," + leaf + ")"
		}
		if len(next) <= 60 {
			t = next
		}
	}
	return t
}

func TestSearchesInManyWorlds(t *testing.T) {
	r := rand.New(rand.NewSource(6))
	counts, specials := map[string]int{}, map[string]int{}
	for k := range 3000 {
		w, s := searchedWorld(r), someType(r, "ibibx", 1+r.Intn(30))
		if k%2 == 0 {
			w, s = fullWorld(r), highType(r, someOf(r, "i", "i", "b", "x"), r.Intn(19))
		}
		if !impl.WorldValid(w) {
			t.Fatalf("the world %q of this test is not valid", w)
		}
		for _, c := range w.Classes {
			why, special := checkSearchByTexts(t, w, impl.Need{Class: c.Name, Type: s})
			counts[why]++
			specials[special]++
		}
		if t.Failed() {
			return
		}
	}
	checkReasons(t, counts, 20)
	checkReasons(t, specials, 20)
}

func TestSearchesInWorldsOfAllTypes(t *testing.T) {
	r := rand.New(rand.NewSource(7))
	for range 1000 {
		w := someWorld(r, "xyib")
		for _, c := range w.Classes {
			checkSearchByTexts(t, w, impl.Need{Class: c.Name, Type: someForm(r, w, "ibx")})
		}
		if t.Failed() {
			return
		}
	}
}

// TestSearchesOfAllShortTypes holds the functions against the model for all short types of a few worlds.
func TestSearchesOfAllShortTypes(t *testing.T) {
	types := typesFrom("xib", "lm", 7)
	for _, text := range []string{
		"E;E i;E l(x):E x;E l(i)", "E O<E;E i;E b;E l(x):E x;E p(x,y):E x&E y;O i;O l(x):O x;E l(i)", "E;E i;E l(x):E x&E x;E m(x):E l(x)&E l(l(x));E p(x,y):E y&E m(x)",
		"E;E i;E l(x):E p(x,x);E p(x,y):E l(y);E m(x)", "E O;E m(x):O x&E l(x);E l(x):E x;O i:E i;O b;E i;E b:E m(b);O l(l(x)):E x;O l(x):O x;O m(i)",
	} {
		w := validWorld(t, text)
		for _, s := range types {
			for _, c := range w.Classes {
				checkSearchByTexts(t, w, impl.Need{Class: c.Name, Type: s})
			}
		}
	}
}

func TestListsOfSearchesAreNewMemory(t *testing.T) {
	w := withRoom(validWorld(t, "E;E l(x):E m(i)&E x;E m(x)"))
	for _, call := range []func() ([]impl.Need, bool){
		func() ([]impl.Need, bool) { return impl.AskedFor(w, needOf("E l(l(b))")) },
		func() ([]impl.Need, bool) { return impl.StackOf(w, needOf("E l(l(b))")) },
		func() ([]impl.Need, bool) { return impl.AskedFor(w, needOf("E l(m(i))")) },
	} {
		first, ok := call()
		second, _ := call()
		want := slices.Clone(second)
		clear(first[:cap(first)])
		again, _ := call()
		if !ok || len(want) < 2 || !slices.Equal(second, want) || !slices.Equal(again, want) {
			t.Errorf("results share memory: %q, %q, %q", first, second, again)
		}
	}
	if same := withRoom(worldOf("E;E l(x):E m(i)&E x;E m(x)")); !reflect.DeepEqual(behind(w), behind(same)) {
		t.Errorf("the world became %q", w)
	}
}

func TestSearchesLeaveWorldsAsTheyAre(t *testing.T) {
	for _, s := range append(worldTexts(), counting, chain, "E;E i;E l(x):E x&E x;E l(i)", "O E", "E;E x", "A B C D E;A i") {
		w, same := withRoom(worldOf(s)), withRoom(worldOf(s))
		for _, text := range []string{"E l(i)", "E l(l(i))", "E x", "O p(i,m(i))", "A l(l(i))", "E " + asking(301), "A q"} {
			n := needOf(text)
			impl.FindDict(w, n)
			impl.AskedFor(w, n)
			impl.FailingNeed(w, n)
			impl.HasInstance(w, n)
			impl.SpecialDict(w, n)
			impl.StackOf(w, n)
		}
		if !reflect.DeepEqual(behind(w), behind(same)) {
			t.Errorf("the world %q became %q", s, w)
		}
	}
}
