package tests

import (
	"math"
	"math/rand"
	"reflect"
	"slices"
	"strconv"
	"strings"
	"testing"

	"loop.example/instancesearch/impl"
)

func TestLimitsOfAllDictionaries(t *testing.T) {
	if impl.MaxLevels != 6 || impl.MaxDicts != 60 {
		t.Error("a limit of all dictionaries is another one")
	}
}

// dictsText returns the dictionaries of a list with spaces between them, as listText does.
func dictsText(list []string, ok bool) string {
	return listText(list, ok, " ", func(d string) string { return d })
}

func dictsOf(text string) []string { return strings.Fields(strings.Trim(text, "-")) }

func countDigits(d string) int {
	return len(d) - strings.Count(d, "(") - strings.Count(d, ")") - strings.Count(d, ",")
}

// leastOf goes through a list from its end.
func leastOf(list []string) string {
	least := ""
	for _, d := range slices.Backward(list) {
		if least == "" || countDigits(d) <= countDigits(least) {
			least = d
		}
	}
	return least
}

func usedIn(list []string) string {
	var used []int
	for i := range 10 {
		if strings.Contains(strings.Join(list, " "), strconv.Itoa(i)) {
			used = append(used, i)
		}
	}
	return indicesText(used, true)
}

// checkAllDicts holds what the functions return at a depth against the text of a list, "" for none.
func checkAllDicts(t *testing.T, w impl.World, n impl.Need, depth int, want string) {
	t.Helper()
	list, count, used := dictsOf(want), -1, ""
	if want != "" {
		count, used = len(list), usedIn(list)
	}
	call := impl.FormatWorld(w) + ", " + impl.FormatNeed(n) + ", " + strconv.Itoa(depth)
	if got := dictsText(impl.AllDicts(w, n, depth)); got != want {
		t.Errorf("AllDicts(%.300s) = %q, want %q", call, got, want)
	}
	if got := impl.CountDicts(w, n, depth); got != count {
		t.Errorf("CountDicts(%.300s) = %d, want %d", call, got, count)
	}
	if got := impl.IsUnique(w, n, depth); got != (count == 1) {
		t.Errorf("IsUnique(%.300s) = %v, of %d", call, got, count)
	}
	if got, ok := impl.LeastDict(w, n, depth); got != leastOf(list) || ok != (count > 0) {
		t.Errorf("LeastDict(%.300s) = %q, %v, want %q", call, got, ok, leastOf(list))
	}
	if got := indicesText(impl.InstancesUsed(w, n, depth)); got != used {
		t.Errorf("InstancesUsed(%.300s) = %q, want %q", call, got, used)
	}
}

// A leveled need has a level and the lists at the first depths.
type leveled struct {
	need  string
	level int
	lists []string
}

func checkLeveled(t *testing.T, world string, list []leveled) {
	t.Helper()
	w := validWorld(t, world)
	for _, c := range list {
		n := validNeed(t, w, c.need)
		if got := impl.LevelOf(w, n); got != c.level {
			t.Errorf("LevelOf(%q, %q) = %d, want %d", world, c.need, got, c.level)
		}
		for depth, want := range c.lists {
			checkAllDicts(t, w, n, depth, want)
		}
	}
}

// always returns the same list at all depths from one on, and no dictionaries at those before.
func always(from int, list string) []string {
	lists := slices.Repeat([]string{"-"}, from)
	return append(lists, slices.Repeat([]string{list}, 7-from)...)
}

func TestAllDictionaries(t *testing.T) {
	checkLeveled(t, "E;E i;E l(x):E x;E l(i);E p(x,y):E x&E y;E m(x):E m(x);E m(i)", []leveled{
		{"E i", 0, always(0, "0")}, {"E b", -1, always(0, "-")}, {"E l(b)", -1, always(0, "-")}, {"E l(x)", -1, always(0, "-")}, {"E x", -1, always(0, "-")},
		{"E l(i)", 0, []string{"2", "1(0) 2", "1(0) 2", "1(0) 2", "1(0) 2", "1(0) 2", "1(0) 2"}},
		{"E l(l(i))", 1, []string{"-", "1(2)", "1(1(0)) 1(2)", "1(1(0)) 1(2)"}},
		{"E p(i,i)", 1, always(1, "3(0,0)")}, {"E p(i,b)", -1, always(0, "-")}, {"E p(b,i)", -1, always(0, "-")},
		{"E p(l(i),l(i))", 1, []string{"-", "3(2,2)", "3(1(0),1(0)) 3(1(0),2) 3(2,1(0)) 3(2,2)", "3(1(0),1(0)) 3(1(0),2) 3(2,1(0)) 3(2,2)"}},
		{"E p(i,l(l(i)))", 2, []string{"-", "-", "3(0,1(2))", "3(0,1(1(0))) 3(0,1(2))"}},
		{"E p(l(l(i)),i)", 2, []string{"-", "-", "3(1(2),0)", "3(1(1(0)),0) 3(1(2),0)"}},
		{"E m(b)", -1, always(0, "-")},
	})
	checkLeveled(t, "E O<E;E l(x):O x&O x;O i;O i;E i;O l(x):E x", []leveled{
		{"E l(i)", 1, always(1, "0(1,1) 0(1,2) 0(2,1) 0(2,2)")}, {"O l(i)", 1, always(1, "4(3)")}, {"O i", 0, always(0, "1 2")}, {"E i", 0, always(0, "3")},
		{"O l(l(i))", 2, always(2, "4(0(1,1)) 4(0(1,2)) 4(0(2,1)) 4(0(2,2))")}, {"E l(l(i))", 2, always(2, "0(4(3),4(3))")},
	})
	// A class above is of no matter.
	checkLeveled(t, "E O<E;O i", []leveled{{"E i", -1, always(0, "-")}, {"O i", 0, always(0, "0")}})
	checkLeveled(t, "E", []leveled{{"E i", -1, always(0, "-")}, {"E " + twice(long28), -1, always(0, "-")}})
}

func TestAllDictionariesOfTypesWithVariables(t *testing.T) {
	checkLeveled(t, "E;E l(x);E l(x):E x;E p(x,x);E p(x,y):E y;E p(y,i)", []leveled{
		{"E l(x)", 0, always(0, "0")}, {"E l(l(Z))", 0, []string{"0", "0 1(0)", "0 1(0)"}}, {"E p(x,x)", 0, always(0, "2")}, {"E p(x,y)", -1, always(0, "-")}, {"E p(x,X)", -1, always(0, "-")},
		{"E p(x,l(x))", 1, []string{"-", "3(0)", "3(0)"}}, {"E p(l(x),l(x))", 0, []string{"2", "2 3(0)", "2 3(0)"}}, {"E p(y,i)", 0, always(0, "4")}, {"E p(i,y)", -1, always(0, "-")}, {"E p(i,i)", 0, always(0, "2 4")},
	})
}

func TestCandidatesWithoutNeeds(t *testing.T) {
	checkLeveled(t, "E O"+strings.Repeat(";E i", 10), []leveled{{"E i", 0, always(0, "0 1 2 3 4 5 6 7 8 9")}, {"E b", -1, always(0, "-")}, {"O i", -1, always(0, "-")}})
	checkLeveled(t, "E O;O i;E p(x,y);E p(x,i);E b;E p(i,x);E p(X,Y);O p(x,y)", []leveled{
		{"E p(i,i)", 0, always(0, "1 2 4 5")}, {"E p(b,i)", 0, always(0, "1 2 5")}, {"E p(i,b)", 0, always(0, "1 4 5")}, {"O p(i,b)", 0, always(0, "6")}, {"E b", 0, always(0, "3")}, {"O i", 0, always(0, "0")},
	})
	// Beside others that have needs.
	checkLeveled(t, "E;E i:E b;E i;E i:E b&E b;E b;E i;E i:E u;E u:E i", []leveled{
		{"E i", 0, []string{"1 4", "0(3) 1 2(3,3) 4", "0(3) 1 2(3,3) 4 5(6(1)) 5(6(4))"}}, {"E u", 1, []string{"-", "6(1) 6(4)", "6(0(3)) 6(1) 6(2(3,3)) 6(4)"}},
	})
}

// ownList returns the dictionaries of a depth of a need that asks for itself, with some instances around it.
func ownList(depth int, around ...string) []string {
	var list []string
	for _, i := range around {
		if i[len(i)-1] == '(' && depth > 0 {
			for _, d := range ownList(depth-1, around...) {
				list = append(list, i+d+")")
			}
		}
		if i[len(i)-1] != '(' {
			list = append(list, i)
		}
	}
	return list
}

func TestAllDictionariesOfNeedsThatAskForThemselves(t *testing.T) {
	lists := []string{"1", "0(1) 1", "0(0(1)) 0(1) 1", "0(0(0(1))) 0(0(1)) 0(1) 1"}
	checkLeveled(t, "E;E m(x):E m(x);E m(i)", []leveled{{"E m(i)", 0, lists}, {"E m(b)", -1, always(0, "-")}})
	checkLeveled(t, "E;E m(i);E m(x):E m(x)", []leveled{{"E m(i)", 0, []string{"0", "0 1(0)", "0 1(0) 1(1(0))", "0 1(0) 1(1(0)) 1(1(1(0)))"}}})
	for depth := range 7 {
		w := validWorld(t, "E;E m(x):E m(x);E m(i)")
		checkAllDicts(t, w, needOf("E m(i)"), depth, strings.Join(ownList(depth, "0(", "1"), " "))
		// The number of dictionaries doubles, and there is one more, with each depth: 1, 3, 7, 15, 31, 63.
		want := strings.Join(ownList(depth, "0(", "1", "2("), " ")
		if depth >= 5 {
			want = ""
		}
		checkAllDicts(t, validWorld(t, "E;E i:E i;E i;E i:E i"), needOf("E i"), depth, want)
	}
	// 1, 2, 5 and 26 dictionaries, and too many.
	fives := "0(0(1,1),0(1,1)) 0(0(1,1),1) 0(1,0(1,1)) 0(1,1) 1"
	checkLeveled(t, "E;E i:E i&E i;E i", []leveled{{"E i", 0, []string{"1", "0(1,1) 1", fives}}})
	w := validWorld(t, "E;E i:E i&E i;E i")
	for depth, want := range []int{1, 2, 5, 26, -1, -1, -1} {
		if got := impl.CountDicts(w, needOf("E i"), depth); got != want {
			t.Errorf("%d dictionaries of the depth %d, not %d", got, depth, want)
		}
	}
	// Three needs in a circle.
	checkLeveled(t, "E O;E b:O b;O b:E u;E u:E b;E u", []leveled{
		{"E u", 0, []string{"3", "3", "3", "2(0(1(3))) 3", "2(0(1(3))) 3"}}, {"O b", 1, []string{"-", "1(3)", "1(3)", "1(3)", "1(2(0(1(3)))) 1(3)"}}, {"E b", 2, []string{"-", "-", "0(1(3))", "0(1(3))", "0(1(3))", "0(1(2(0(1(3))))) 0(1(3))"}},
	})
	for _, world := range []string{"E;E i:E i", "E;E i:E i;E i:E i&E i", "E O;E i:O i;O i:E i", "E;E i:E l(i);E l(x):E x", "E O;E i:E i&O i;O i"} {
		checkLeveled(t, world, []leveled{{"E i", -1, always(0, "-")}})
	}
}

func TestNeedsThatAskForTheSameOnesManyTimes(t *testing.T) {
	w := validWorld(t, "E O"+strings.Repeat(";E l(x):E l(x)&E l(x)&E l(x)", 10))
	other := validWorld(t, "E O"+strings.Repeat(";E l(x):O l(x)&O l(x)&O l(x)", 5)+strings.Repeat(";O l(x):E l(x)&E l(x)&E l(x)", 5))
	pairs := validWorld(t, "E O"+strings.Repeat(";E p(x,y):E p(y,x)&E p(x,x)&E p(y,y)", 9)+";E i")
	for depth := range 7 {
		checkAllDicts(t, w, needOf("E l(i)"), depth, "-")
		checkAllDicts(t, other, needOf("E l(i)"), depth, "-")
		checkAllDicts(t, pairs, needOf("E p(i,b)"), depth, "-")
	}
	if impl.LevelOf(w, needOf("E l(i)")) != -1 || impl.LevelOf(other, needOf("O l(i)")) != -1 || impl.LevelOf(pairs, needOf("E p(i,b)")) != -1 {
		t.Error("there is no dictionary of any level")
	}
}

// TestAllDictionariesOfBigNeeds has instances for which a type of a need is too long.
func TestAllDictionariesOfBigNeeds(t *testing.T) {
	checkLeveled(t, "E O;E l(x):O p(x,x);O p(x,x);E l(x);O l(x):O p(x,l(i));O p(x,l(i))", []leveled{
		{"E l(" + long28 + ")", 0, []string{"2", "0(1) 2", "0(1) 2"}}, {"E l(l(" + long26 + "))", 0, always(0, "2")},
		{"O l(" + typeOfLength(52) + ")", 1, always(1, "3(4)")}, {"O l(" + typeOfLength(53) + ")", -1, always(0, "-")}, {"O l(" + typeOfLength(57) + ")", -1, always(0, "-")},
	})
	// The needs beside it are not asked for, however many dictionaries they have.
	checkLeveled(t, "E O;E l(x):O x&O x&O p(x,x)"+strings.Repeat(";O l(x)", 8), []leveled{
		{"E l(l(" + long26 + "))", -1, always(0, "-")}, {"E l(l(i))", -1, []string{"-", "", "", "", "", "", ""}},
	})
}

func TestDepthsOfAllDictionaries(t *testing.T) {
	w := validWorld(t, "E;E i;E l(x):E x;E l(l(l(i)));E m(x)")
	for _, depth := range []int{-1, -2, -6, -60, 7, 8, 60, 1 << 32, math.MinInt, math.MaxInt} {
		for _, s := range []string{"E i", "E l(i)", "E b", "E m(x)"} {
			checkAllDicts(t, w, needOf(s), depth, "")
		}
	}
	var list []leveled
	for k, want := range []string{"0", "1(0)", "1(1(0))"} {
		list = append(list, leveled{"E " + nested(k), k, always(k, want)})
	}
	for k := range 4 {
		tower := strings.Repeat("1(", k) + "2" + strings.Repeat(")", k)
		full := strings.Repeat("1(", k+3) + "0" + strings.Repeat(")", k+3)
		lists := append(slices.Repeat([]string{"-"}, k), tower, tower, tower)
		list = append(list, leveled{"E " + nested(k+3), k, append(lists, slices.Repeat([]string{full + " " + tower}, 4-k)...)})
	}
	list = append(list, leveled{"E " + nested(9), 6, always(6, "1(1(1(1(1(1(2))))))")}, leveled{"E " + nested(10), -1, always(0, "-")}, leveled{"E " + nested(19), -1, always(0, "-")})
	checkLeveled(t, "E;E i;E l(x):E x;E l(l(l(i)))", list)
}

func TestAllDictionariesOfWhatIsNotValid(t *testing.T) {
	check := func(w impl.World, n impl.Need) {
		t.Helper()
		for _, depth := range []int{-1, 0, 1, 6, 7} {
			checkAllDicts(t, w, n, depth, "")
		}
		if got := impl.LevelOf(w, n); got != -1 {
			t.Errorf("LevelOf(%.300q, %.300q) = %d", w, n, got)
		}
	}
	for _, w := range worldsThatAreNotValid() {
		for _, s := range []string{"E l(i)", "E l(x)", "E i", "O i", "A i", "E ", " i", " ", ""} {
			check(w, needOf(s))
		}
	}
	w := validWorld(t, "E O;E i;E l(x):E x;O i;O l(x)")
	for _, s := range textsThatAreNoTypes() {
		check(w, impl.Need{Class: "E", Type: s})
		check(w, impl.Need{Class: "O", Type: s})
	}
	for _, class := range []string{"", "A", "T", "Z", "e", "i", "EO", "EE", "E ", " E", "O;", "\xff", "\x00"} {
		check(w, impl.Need{Class: class, Type: "i"})
		check(w, impl.Need{Class: class, Type: "l(i)"})
	}
	check(w, impl.Need{})
	check(w, impl.Need{Class: "E", Type: "l(" + twice(long28) + ")"})
}

// numberWorld has for each l one dictionary more than for the type in it, for m five times as many, and
// for p the product of both. In the class O, there is the product of three.
const numberWorld = "E O;E i;E l(x):E x;E l(x);E m(x):E x;E m(x):E x;E m(x):E x;E m(x):E x;E m(x):E x;E p(x,y):E x&E y;O p(x,p(y,z)):E x&E y&E z"

// numberOf returns how many dictionaries there are in numberWorld, -1 if there are too many anywhere.
func numberOf(class, s string, depth int) int {
	parts := impl.PartsOf(s)
	switch s[0] {
	case 'i':
		return 1
	case 'l', 'm':
		if depth == 0 {
			return strings.Count(s[:1], "l")
		}
		inner := numberOf("E", parts[0], depth-1)
		if s[0] == 'l' {
			return within(inner, 1, 1)
		}
		return within(inner, 5, 0)
	case 'p':
		if depth == 0 {
			return 0
		}
		if class == "O" {
			parts = append(parts[:1], impl.PartsOf(parts[1])...)
		}
		number := 1
		for _, p := range parts {
			next := numberOf("E", p, depth-1)
			if next < 0 {
				return -1
			}
			number = within(number, next, 0)
		}
		return number
	}
	return 0
}

func within(number, times, more int) int {
	if number < 0 || number*times+more > 60 {
		return -1
	}
	return number*times + more
}

func checkNumber(t *testing.T, w impl.World, class, s string, depth int) int {
	t.Helper()
	want := numberOf(class, s, depth)
	list, ok := impl.AllDicts(w, impl.Need{Class: class, Type: s}, depth)
	if got := impl.CountDicts(w, impl.Need{Class: class, Type: s}, depth); got != want || ok != (want >= 0) || len(list) != max(want, 0) {
		t.Errorf("%d dictionaries of %q of the depth %d, not %d: %q, %v", got, class+" "+s, depth, want, list, ok)
	}
	return want
}

// The types that have this number of dictionaries of at most the depth 5.
func typeOfNumber(number int) string {
	return map[int]string{
		0: "b", 1: "i", 2: "l(i)", 3: "l(l(i))", 4: "p(l(i),l(i))", 5: "m(i)", 6: "l(m(i))", 7: "l(l(m(i)))", 8: "p(l(i),p(l(i),l(i)))", 12: "p(l(l(i)),p(l(i),l(i)))", 15: "p(l(l(i)),m(i))", 20: "p(m(i),p(l(i),l(i)))", 30: "p(l(m(i)),m(i))", 31: "l(p(l(m(i)),m(i)))",
		60: "p(p(l(l(i)),p(l(i),l(i))),m(i))", 61: "l(p(p(l(l(i)),p(l(i),l(i))),m(i)))",
	}[number]
}

func TestMostDictionariesOfNeeds(t *testing.T) {
	w := validWorld(t, numberWorld)
	for _, number := range []int{0, 1, 2, 3, 4, 5, 6, 7, 8, 12, 15, 20, 30, 31, 60} {
		if got := checkNumber(t, w, "E", typeOfNumber(number), 5); got != number {
			t.Errorf("%d dictionaries, not %d", got, number)
		}
	}
	sixty, more := typeOfNumber(60), typeOfNumber(61)
	for depth, want := range []int{0, 0, 0, 10, 60, 60, 60} {
		if got := checkNumber(t, w, "E", sixty, depth); got != want {
			t.Errorf("%d dictionaries of the depth %d, not %d", got, depth, want)
		}
	}
	// One more, or as many for another need.
	for depth, want := range []int{1, 1, 1, 1, 11, -1, -1} {
		if got := checkNumber(t, w, "E", more, depth); got != want {
			t.Errorf("%d dictionaries of the depth %d, not %d", got, depth, want)
		}
	}
	for s, want := range map[string]int{"p(" + sixty + ",i)": 60, "p(i," + sixty + ")": 60, "p(" + sixty + ",b)": 0, "p(b," + sixty + ")": 0, "p(" + sixty + ",l(i))": -1, "p(l(i)," + sixty + ")": -1, "m(" + sixty + ")": -1, "p(" + more + ",b)": -1, "p(b," + more + ")": -1, "p(b,l(" + more + "))": 0} {
		if got := checkNumber(t, w, "E", s, 6); got != want {
			t.Errorf("%d dictionaries of %q, not %d", got, s, want)
		}
	}
	if impl.LevelOf(w, needOf("E "+more)) != 0 || impl.LevelOf(w, needOf("E m("+sixty+")")) != 4 || impl.LevelOf(w, needOf("E p(i,"+more+")")) != 1 {
		t.Error("there is a dictionary of a level, however many there are")
	}
}

func TestMostDictionariesOfFirstParts(t *testing.T) {
	w := validWorld(t, numberWorld)
	for _, c := range []struct{ first, second, third, want int }{
		{60, 1, 1, 60}, {1, 60, 1, 60}, {1, 1, 60, 60}, {3, 4, 5, 60}, {5, 4, 3, 60}, {5, 12, 1, 60}, {30, 2, 1, 60}, {2, 1, 30, 60}, {2, 5, 6, 60}, {1, 2, 30, 60}, {2, 4, 7, 56}, {7, 8, 1, 56}, {3, 20, 1, 60}, {1, 15, 4, 60},
		{61, 1, 1, -1}, {1, 61, 1, -1}, {1, 1, 61, -1}, {31, 2, 1, -1}, {1, 31, 2, -1}, {31, 1, 2, -1}, {1, 2, 31, -1}, {8, 8, 1, -1}, {8, 1, 8, -1}, {1, 8, 8, -1}, {4, 4, 4, -1}, {7, 3, 3, -1}, {31, 30, 1, -1}, {3, 7, 3, -1},
		// Where one part has none, only what stands before it counts.
		{60, 1, 0, 0}, {12, 5, 0, 0}, {3, 20, 0, 0}, {1, 60, 0, 0}, {61, 1, 0, -1}, {1, 61, 0, -1}, {8, 8, 0, -1}, {31, 2, 0, -1}, {2, 31, 0, -1}, {31, 30, 0, -1}, {60, 2, 0, -1},
		{60, 0, 1, 0}, {60, 0, 2, 0}, {31, 0, 30, 0}, {8, 0, 8, 0}, {61, 0, 1, -1}, {1, 0, 61, -1}, {0, 60, 2, 0}, {0, 31, 30, 0}, {0, 8, 8, 0}, {0, 61, 1, -1}, {0, 1, 61, -1}, {0, 0, 61, -1}, {61, 0, 0, -1}, {0, 61, 0, -1}, {0, 0, 60, 0}, {0, 0, 0, 0},
	} {
		s := "p(" + typeOfNumber(c.first) + ",p(" + typeOfNumber(c.second) + "," + typeOfNumber(c.third) + "))"
		if got := checkNumber(t, w, "O", s, 6); got != c.want || !impl.TypeValid(s) {
			t.Errorf("%d dictionaries of %q, not %d", got, s, c.want)
		}
	}
}

// lengthWorld has one dictionary for each type of i, l, m and p.
const lengthWorld = "E;E i;E l(x):E x;E m(x):E x&E x&E x;E p(x,y):E x&E x&E y"

// dictOfType returns the dictionary of a type in lengthWorld.
func dictOfType(s string) string {
	var d []string
	for _, p := range impl.PartsOf(s) {
		d = append(d, dictOfType(p))
	}
	switch s[0] {
	case 'l':
		return "1(" + d[0] + ")"
	case 'm':
		return "2(" + d[0] + "," + d[0] + "," + d[0] + ")"
	case 'p':
		return "3(" + d[0] + "," + d[0] + "," + d[1] + ")"
	}
	return "0"
}

func TestLongestOfAllDictionaries(t *testing.T) {
	w := validWorld(t, lengthWorld)
	for _, c := range []struct {
		text          string
		length, depth int
	}{
		{"m(m(m(m(m(i)))))", 848, 5}, {"p(p(m(m(m(m(i)))),i),m(m(l(i))))", 1197, 6}, {"p(m(m(p(m(m(i)),i))),i)", 1198, 6}, {"m(m(m(p(l(i),m(m(i))))))", 1199, 6}, {"p(p(m(m(m(m(i)))),i),l(m(m(l(i)))))", 1200, 6},
		{"p(m(m(p(m(m(i)),i))),l(i))", 1201, 6}, {"m(p(p(m(m(m(i))),l(i)),m(i)))", 1202, 6}, {"p(p(m(m(m(m(i)))),l(i)),m(m(l(i))))", 1203, 6}, {"m(m(m(m(m(m(i))))))", 2549, 6},
	} {
		d, n := dictOfType(c.text), impl.Need{Class: "E", Type: c.text}
		if len(d) != c.length || impl.DepthOf(c.text) != c.depth {
			t.Fatalf("the dictionary of %q has %d bytes and the depth %d", c.text, len(d), impl.DepthOf(c.text))
		}
		for depth := range c.depth {
			checkAllDicts(t, w, n, depth, "-")
		}
		want := d
		if c.length > 1200 {
			want = ""
		}
		checkAllDicts(t, w, n, c.depth, want)
		if got := impl.LevelOf(w, n); got != c.depth {
			t.Errorf("LevelOf(%q) = %d, want %d", c.text, got, c.depth)
		}
	}
}

// TestLongDictionariesBesideShortOnes has dictionaries of more than 1200 bytes at the depth 6 alone.
func TestLongDictionariesBesideShortOnes(t *testing.T) {
	high := "m(m(m(m(m(m(i))))))"
	for _, c := range []struct{ world, short string }{
		{"E O;E i;E l(x):E x;E m(x):E x&E x&E x;O m(x):E x&E x&E x;O m(x)", "4"}, {"E O;E i;E l(x):E x;E m(x):E x&E x&E x;O m(x);O m(x):E x&E x&E x", "3"}, {"E O;E i;E l(x):E x;E m(x):E x&E x&E x;O m(x):E i;O m(x):E x&E x&E x", "3(0)"},
	} {
		w := validWorld(t, c.world)
		checkAllDicts(t, w, needOf("O "+high), 5, c.short)
		checkAllDicts(t, w, needOf("O "+high), 6, "")
		if got, want := impl.LevelOf(w, needOf("O "+high)), strings.Count(c.short, "("); got != want {
			t.Errorf("LevelOf(%q) = %d, want %d", c.world, got, want)
		}
	}
}

func TestOrderOfAllDictionaries(t *testing.T) {
	checkLeveled(t, "E;E p(x,y):E y&E x;E i;E l(x):E x;E i", []leveled{
		{"E p(i,i)", 1, always(1, "0(1,1) 0(1,3) 0(3,1) 0(3,3)")}, {"E p(l(i),i)", 2, always(2, "0(1,2(1)) 0(1,2(3)) 0(3,2(1)) 0(3,2(3))")}, {"E p(i,l(i))", 2, always(2, "0(2(1),1) 0(2(1),3) 0(2(3),1) 0(2(3),3)")},
	})
	checkLeveled(t, "E;E l(x):E x&E x&E x;E i;E i", []leveled{{"E l(i)", 1, always(1, "0(1,1,1) 0(1,1,2) 0(1,2,1) 0(1,2,2) 0(2,1,1) 0(2,1,2) 0(2,2,1) 0(2,2,2)")}})
	// The order is not that of the texts: 1(2) stands behind 1(1), which stands behind 1(0(1)).
	checkLeveled(t, "E;E i:E b;E i;E l(x):E x;E b;E l(i)", []leveled{{"E l(i)", 0, []string{"4", "2(1) 4", "2(0(3)) 2(1) 4"}}})
	checkLeveled(t, "E;E i;E i:E b;E b;E i:E b&E b;E l(x):E x&E x;E b", []leveled{
		{"E i", 0, []string{"0", "0 1(2) 1(5) 3(2,2) 3(2,5) 3(5,2) 3(5,5)"}},
		{"E l(b)", 1, always(1, "4(2,2) 4(2,5) 4(5,2) 4(5,5)")},
	})
	// A part stands for the whole order, at whatever depth it differs.
	checkLeveled(t, "E;E i;E l(x):E x;E p(x,y):E x&E y;E l(l(x))", []leveled{
		{"E p(l(l(i)),l(l(i)))", 1, []string{"-", "2(3,3)", "2(3,3)", "2(1(1(0)),1(1(0))) 2(1(1(0)),3) 2(3,1(1(0))) 2(3,3)"}},
		{"E p(l(l(l(i))),i)", 1, []string{"-", "2(3,0)", "2(1(3),0) 2(3,0)", "2(1(3),0) 2(3,0)", "2(1(1(1(0))),0) 2(1(3),0) 2(3,0)"}},
	})
}

func TestLeastDict(t *testing.T) {
	for _, c := range []struct {
		world, need string
		depth       int
		want        string
	}{
		// Of the same number of digits, the first one.
		{"E;E i;E i;E i", "E i", 0, "0"}, {"E;E l(x):E x;E i;E i", "E l(i)", 1, "0(1)"}, {"E;E i:E b;E b;E i:E b;E b", "E i", 3, "0(1)"}, {"E;E i:E b;E b;E i:E b;E i", "E i", 3, "3"},
		{"E;E p(x,y):E x&E y;E i;E i;E l(x):E x", "E p(i,l(i))", 4, "0(1,3(1))"}, {"E;E i:E b&E b;E b:E u;E u;E i:E b;E i:E b", "E i", 4, "3(1(2))"}, {"E;E i:E b&E b;E b:E u;E u;E i:E b;E i:E u&E u", "E i", 4, "3(1(2))"},
		// Fewer digits behind more of them, at the end and in the midst.
		{"E;E m(x):E m(x);E m(i)", "E m(i)", 6, "1"}, {"E;E m(x):E m(x)&E m(x);E m(i):E b;E b", "E m(i)", 3, "1(2)"}, {"E;E i:E b&E b&E b;E i:E b;E i:E b&E b;E b", "E i", 6, "1(3)"},
		// Five digits in thirteen bytes, behind six of them in as many: it is digits that count.
		{"E;E l(x):E m(x)&E x&E x;E m(x):E x&E x;E i;E l(x):E p(x,x);E p(x,y):E l(l(x));E l(l(x)):E u;E u", "E l(i)", 6, "3(4(5(6)))"},
		{"E;E l(i):E m(i)&E i&E i;E m(x):E x&E x;E i;E l(i):E b;E b:E u;E u:E l(u);E l(u):E l(b);E l(b)", "E l(i)", 6, "3(4(5(6(7))))"},
		// Six digits in sixteen bytes, behind seven of them in fifteen.
		{"E;E l(i):E m(i)&E i&E i;E m(x):E x&E x&E x;E i;E l(i):E b;E b:E u;E u:E l(u);E l(u):E l(b);E l(b):E m(u);E m(u)", "E l(i)", 6, "3(4(5(6(7(8)))))"},
		// Not the least depth either.
		{"E;E i:E b&E b&E b;E i:E u;E u:E l(i);E l(i);E b", "E i", 6, "1(2(3))"}, {"E;E i:E u;E u:E l(i);E l(i);E i:E b&E b;E b", "E i", 6, "0(1(2))"}, {"E;E i:E b&E b;E i:E u;E u:E l(i);E l(i);E b", "E i", 6, "0(4,4)"},
		{"E;E i:E b&E b&E b;E i:E u;E u:E l(i);E l(i);E b", "E i", 1, "0(4,4,4)"},
	} {
		w := validWorld(t, c.world)
		if got, ok := impl.LeastDict(w, needOf(c.need), c.depth); got != c.want || !ok {
			t.Errorf("LeastDict(%q, %q, %d) = %q, %v, want %q", c.world, c.need, c.depth, got, ok, c.want)
		}
	}
	lists := map[string]int{"0(1(2,2),2,2)": 13, "3(4(5(6(7))))": 13, "0(1(2,2,2),2,2)": 15, "3(4(5(6(7(8)))))": 16}
	for d, length := range lists {
		if len(d) != length {
			t.Errorf("%q has %d bytes, not %d", d, len(d), length)
		}
	}
}

func TestInstancesUsed(t *testing.T) {
	for _, c := range []struct {
		world, need string
		depth       int
		want        string
	}{
		{"E;E i", "E i", 0, "0"}, {"E;E i", "E b", 3, "-"}, {"E;E i", "E i", 7, ""}, {"E;E i", "O i", 3, ""},
		{"E;E b;E i;E u;E l(x):E x;E l(i)", "E l(i)", 0, "4"}, {"E;E b;E i;E u;E l(x):E x;E l(i)", "E l(i)", 1, "1 3 4"}, {"E;E b;E i;E u;E l(x):E x;E l(i)", "E l(u)", 1, "2 3"},
		{"E;E p(x,y):E y&E x;E u;E i;E l(x):E x;E b", "E p(b,i)", 1, "0 2 4"}, {"E;E p(x,y):E y&E x;E u;E i;E l(x):E x;E b", "E p(l(i),i)", 2, "0 2 3"},
		{"E" + strings.Repeat(";E i", 10), "E i", 0, "0 1 2 3 4 5 6 7 8 9"}, {"E" + strings.Repeat(";E b", 8) + ";E l(x):E i;E i", "E l(b)", 1, "8 9"}, {"E;E i:E b;E i;E b:E i", "E i", 1, "1"}, {"E;E i:E b;E i;E b:E i", "E i", 2, "0 1 2"},
		// One that is a part of no dictionary is not used.
		{"E;E i;E p(x,y):E x&E y;E l(x)", "E p(i,b)", 3, "-"}, {"E;E i;E p(x,y):E x&E y;E p(i,x)", "E p(i,b)", 3, "2"},
	} {
		if got := indicesText(impl.InstancesUsed(validWorld(t, c.world), needOf(c.need), c.depth)); got != c.want {
			t.Errorf("InstancesUsed(%q, %q, %d) = %q, want %q", c.world, c.need, c.depth, got, c.want)
		}
	}
}

func TestIsUnique(t *testing.T) {
	w := validWorld(t, "E;E i;E l(x):E x;E l(l(i));E p(x,y):E x&E y;E b;E b")
	for _, c := range []struct {
		need string
		want string // for each depth from -1 to 7
	}{
		{"E i", "-xxxxxxx-"}, {"E l(i)", "--xxxxxx-"}, {"E l(l(i))", "-xx------"}, {"E b", "---------"}, {"E u", "---------"}, {"E p(i,i)", "--xxxxxx-"}, {"E p(i,b)", "---------"}, {"E p(l(l(i)),i)", "--xx-----"}, {"E x", "---------"}, {"O i", "---------"},
	} {
		got := ""
		for depth := -1; depth <= 7; depth++ {
			got += map[bool]string{true: "x", false: "-"}[impl.IsUnique(w, needOf(c.need), depth)]
		}
		if got != c.want {
			t.Errorf("IsUnique(%q) is %q from the depth -1 to 7, want %q", c.need, got, c.want)
		}
	}
}

func TestLevelOf(t *testing.T) {
	for _, c := range []struct {
		world string
		needs string
		want  []int
	}{
		{"E;E i;E l(x):E x", "E i&E l(i)&E l(l(i))&E " + nested(5) + "&E " + nested(6) + "&E " + nested(7) + "&E " + nested(19) + "&E b&E l(b)&E x", []int{0, 1, 2, 5, 6, -1, -1, -1, -1, -1}},
		// The greatest level of a part, whichever this is, and the least one of a candidate, whichever this is.
		{"E;E i;E l(x):E x;E p(x,y):E x&E y", "E p(i,i)&E p(i,l(l(i)))&E p(l(l(i)),i)&E p(l(i),l(i))&E p(l(i),p(i,l(i)))&E p(i," + nested(5) + ")&E p(i," + nested(6) + ")&E p(" + nested(6) + ",i)&E p(b,i)&E p(i,b)", []int{1, 3, 3, 2, 3, 6, -1, -1, -1, -1}},
		{"E;E i;E l(x):E x;E p(x,y):E l(x)&E l(l(y));E p(x,i):E x;E p(x,x):E l(x);E p(l(x),i)", "E p(i,i)&E p(l(i),i)&E p(i,l(i))&E p(l(i),l(i))&E p(l(b),i)&E p(b,i)&E p(b,b)", []int{1, 0, 4, 3, 0, -1, -1}},
		{"E;E m(x):E m(x);E m(i);E m(b):E m(i);E m(b):E m(b);E m(u):E m(u)", "E m(i)&E m(b)&E m(u)&E m(x)", []int{0, 1, -1, -1}},
		{"A B C D;A i:B i;B i:C i;C i:D i;D i:A i;D i", "A i&B i&C i&D i&D b", []int{3, 2, 1, 0, -1}}, {"A B C D;A i:B i;B i:C i;C i:D i;D i:A i", "A i&B i&C i&D i", []int{-1, -1, -1, -1}},
	} {
		w := validWorld(t, c.world)
		for k, want := range c.want {
			if n := strings.Split(c.needs, "&")[k]; impl.LevelOf(w, needOf(n)) != want {
				t.Errorf("LevelOf(%q, %q) = %d, want %d", c.world, n, impl.LevelOf(w, needOf(n)), want)
			}
		}
	}
	w := validWorld(t, "A B C;A i:B i;B i:C i;C i:A b;A b:B b;B b:C b;C b:A u;A u:B u;B u")
	for k, s := range []string{"B u", "A u", "C b", "B b", "A b", "C i", "B i"} {
		if got := impl.LevelOf(w, needOf(s)); got != k {
			t.Errorf("LevelOf(%q) = %d, want %d", s, got, k)
		}
	}
	if got := impl.LevelOf(w, needOf("A i")); got != -1 {
		t.Errorf("LevelOf of a need of the level 7 = %d", got)
	}
}

// A told has the dictionaries that a model tells of, or is over.
type told struct {
	list []string
	over bool
}

// byDigits compares two dictionaries of one need: where their first digits differ, so do their instances.
func byDigits(a, b string) int {
	only := func(d string) string { return strings.NewReplacer("(", "", ")", "", ",", "").Replace(d) }
	return strings.Compare(only(a), only(b))
}

// productByTexts counts through the dictionaries of needs from the last ones backwards.
func productByTexts(head string, lists []told) told {
	total := 1
	for _, p := range lists {
		total *= len(p.list)
		if p.over || total > 60 {
			return told{over: true}
		}
	}
	if len(lists) == 0 {
		return told{list: []string{head}}
	}
	var all told
	for k := total - 1; k >= 0; k-- {
		var parts []string
		for rest, p := k, 0; p < len(lists); p++ {
			parts = append(parts, lists[p].list[rest%len(lists[p].list)])
			rest /= len(lists[p].list)
		}
		all.list = append(all.list, head+"("+strings.Join(parts, ",")+")")
	}
	return all
}

// dictsByTexts has what is known of a need at the place of its text and depth.
func dictsByTexts(w impl.World, n impl.Need, depth int, known map[string]told) told {
	key := impl.FormatNeed(n) + strconv.Itoa(depth)
	all, found := known[key]
	if found || depth < 0 {
		return all
	}
	candidates, _ := choiceByTexts(w, n)
	for _, i := range candidates {
		text := needsByTexts(w.Instances[i], n.Type)
		if text == "" {
			continue
		}
		var lists []told
		for _, s := range strings.Split(strings.Trim(text, "-"), "&") {
			if s != "" {
				lists = append(lists, dictsByTexts(w, needOf(s), depth-1, known))
			}
		}
		next := productByTexts(strconv.Itoa(i), lists)
		all = told{list: append(all.list, next.list...), over: all.over || next.over}
	}
	all.over = all.over || len(all.list) > 60 || slices.ContainsFunc(all.list, func(d string) bool { return len(d) > 1200 })
	if all.over {
		all.list = nil
	}
	slices.SortFunc(all.list, byDigits)
	known[key] = all
	return all
}

// levelByTexts returns the least level of a need up to a depth, or a greater one than this.
func levelByTexts(w impl.World, n impl.Need, depth int, known map[string]int) int {
	key := impl.FormatNeed(n) + strconv.Itoa(depth)
	if level, found := known[key]; found || depth < 0 {
		return level
	}
	least := depth + 1
	candidates, _ := choiceByTexts(w, n)
	for _, i := range candidates {
		text, level := needsByTexts(w.Instances[i], n.Type), 0
		for _, s := range strings.Split(strings.Trim(text, "-"), "&") {
			if s != "" {
				level = max(level, 1+levelByTexts(w, needOf(s), depth-1, known))
			}
		}
		if text != "" {
			least = min(least, level)
		}
	}
	known[key] = least
	return least
}

// checkToldByTexts returns how many dictionaries there are at the depth 6, -1 if there is no list of them.
func checkToldByTexts(t *testing.T, w impl.World, n impl.Need) int {
	t.Helper()
	known, count := map[string]told{}, 0
	for depth := range 7 {
		all := dictsByTexts(w, n, depth, known)
		count = len(all.list)
		want := dictsText(all.list, true)
		if all.over {
			want, count = "", -1
		}
		checkAllDicts(t, w, n, depth, want)
	}
	want := levelByTexts(w, n, 6, map[string]int{})
	if want > 6 {
		want = -1
	}
	if got := impl.LevelOf(w, n); got != want {
		t.Errorf("LevelOf(%q, %q) = %d, want %d", impl.FormatWorld(w), n, got, want)
	}
	return count
}

func TestAllDictionariesInManyWorlds(t *testing.T) {
	r := rand.New(rand.NewSource(14))
	counts := map[int]int{}
	for k := range 900 {
		w, s := searchedWorld(r), someType(r, "ibibx", 1+r.Intn(20))
		switch k % 3 {
		case 1:
			w, s = fullWorld(r), highType(r, someOf(r, "i", "i", "b", "x"), r.Intn(9))
		case 2:
			w = someWorld(r, "xyib")
			s = someForm(r, w, "ibx")
		}
		for _, c := range w.Classes {
			counts[min(checkToldByTexts(t, w, impl.Need{Class: c.Name, Type: s}), 5)]++
		}
		if t.Failed() {
			return
		}
	}
	for _, count := range []int{-1, 0, 1, 2, 5} {
		if counts[count] < 8 {
			t.Errorf("of the needs of this test, %d have %d dictionaries: %v", counts[count], count, counts)
		}
	}
}

// manyWorld returns a world in which many needs have some dictionaries, those of the class E mostly more than one.
func manyWorld(r *rand.Rand) impl.World {
	w := impl.World{Classes: classesOf("E O")}
	for k, own := range []string{"i", "l(x) x", "m(x) x l(x)", "p(x,y) x y", "i", "l(x) x", "m(x) x", "p(x,y) y x l(x) l(y)", "", ""} {
		if own == "" {
			own = someOf(r, "i", "i", "l(x)", "l(x) l(x)", "l(x) x", "m(x) x")
		}
		leaves := strings.Split(own, " ")
		i := impl.Instance{Need: impl.Need{Class: "EO"[k/4%2:][:1], Type: leaves[0]}}
		for range min(r.Intn(4), 10*(len(leaves)-1)) {
			i.Needs = append(i.Needs, impl.Need{Class: someOf(r, "E", "E", "O"), Type: someOf(r, leaves[1:]...)})
		}
		w.Instances = append(w.Instances, i)
	}
	r.Shuffle(len(w.Instances), func(a, b int) { w.Instances[a], w.Instances[b] = w.Instances[b], w.Instances[a] })
	return w
}

func TestAllDictionariesInWorldsWithMany(t *testing.T) {
	r := rand.New(rand.NewSource(15))
	counts := map[int]int{}
	for range 900 {
		w := manyWorld(r)
		s := highType(r, someOf(r, "i", "i", "b"), 1+r.Intn(4))
		for _, c := range w.Classes {
			count := checkToldByTexts(t, w, impl.Need{Class: c.Name, Type: s})
			counts[min(count, (count+9)/10)]++
		}
		if t.Failed() {
			return
		}
	}
	for tens := -1; tens < 5; tens++ {
		if counts[tens] < 5 {
			t.Errorf("of the needs of this test, %d have up to %d times ten dictionaries: %v", counts[tens], tens, counts)
		}
	}
}

// TestAllSmallDictionaries holds for all small dictionaries that just those are told of that are right.
func TestAllSmallDictionaries(t *testing.T) {
	types := typesFrom("xib", "l", 9)
	all := allDicts("01234", 4)
	slices.SortFunc(all, byDigits)
	for _, world := range []string{
		"E;E i;E l(x):E x;E p(x,y):E x&E y;E p(x,x);E l(y)", "E O<E;O p(x,y):E x;E l(x):O p(x,l(x));E p(x,y):O p(y,x)&E x;E l(x);O p(x,l(y))", "E;E l(x):E x&E x;E l(x):E l(x);E i;E p(x,y):E l(x);E p(x,i)",
		"E O;E i:E i;E i;O l(x):E x&O x;O i:E i;E p(x,y):O l(x)&E y",
	} {
		w := validWorld(t, world)
		told := 0
		for _, s := range types {
			for _, c := range w.Classes {
				n := impl.Need{Class: c.Name, Type: s}
				var right []string
				for _, d := range all {
					if impl.CheckDict(w, n, d) == "ok" {
						right = append(right, d)
					}
				}
				for depth := range 7 {
					list, ok := impl.AllDicts(w, n, depth)
					if !ok {
						continue
					}
					told += len(list)
					small := slices.DeleteFunc(list, func(d string) bool { return impl.SizeOfDict(d) > 4 })
					want := slices.DeleteFunc(slices.Clone(right), func(d string) bool { return impl.DepthOfDict(d) > depth })
					if !slices.Equal(small, want) {
						t.Errorf("AllDicts(%q, %q, %d) has %q of at most four digits, want %q", world, n, depth, small, want)
					}
				}
			}
		}
		if told < 100 {
			t.Errorf("in the world %q, there are %d dictionaries", world, told)
		}
	}
}

// TestAllDictionariesAreRight holds that each dictionary is right, that of a search is among them, and that
// in a world in which no two instances are for one type, there is no other one.
func TestAllDictionariesAreRight(t *testing.T) {
	r := rand.New(rand.NewSource(16))
	found := 0
	for range 800 {
		w := fullWorld(r)
		n := impl.Need{Class: "E", Type: highType(r, someOf(r, "i", "x"), r.Intn(6))}
		list, ok := impl.AllDicts(w, n, 6)
		for _, d := range list {
			if impl.CheckDict(w, n, d) != "ok" || impl.DepthOfDict(d) > 6 {
				t.Errorf("AllDicts(%q, %q) has %q", impl.FormatWorld(w), n, d)
			}
		}
		d, why := impl.FindDict(w, n)
		if !ok || why != "" || impl.DepthOfDict(d) > 6 {
			continue
		}
		found++
		if !slices.Equal(list, []string{d}) || impl.LevelOf(w, n) != impl.DepthOfDict(d) {
			t.Errorf("AllDicts(%q, %q) = %q, and a search finds %q", impl.FormatWorld(w), n, list, d)
		}
	}
	if found < 100 {
		t.Errorf("%d searches of this test find a dictionary", found)
	}
}

func TestListsOfAllDictionariesAreNewMemory(t *testing.T) {
	w, n := validWorld(t, "E;E i;E l(x):E x;E l(i)"), needOf("E l(i)")
	first, _ := impl.AllDicts(w, n, 2)
	second, _ := impl.AllDicts(w, n, 2)
	for k := range first[:cap(first)] {
		first[:cap(first)][k] = "changed"
	}
	if want := []string{"1(0)", "2"}; !slices.Equal(second, want) || dictsText(impl.AllDicts(w, n, 2)) != "1(0) 2" {
		t.Errorf("results of AllDicts share memory: %q", second)
	}
	used, _ := impl.InstancesUsed(w, n, 2)
	other, _ := impl.InstancesUsed(w, n, 2)
	for k := range used[:cap(used)] {
		used[:cap(used)][k] = -7
	}
	if !slices.Equal(other, []int{0, 1, 2}) || indicesText(impl.InstancesUsed(w, n, 2)) != "0 1 2" {
		t.Errorf("results of InstancesUsed share memory: %v", other)
	}
}

func TestAllDictionariesLeaveWorldsAsTheyAre(t *testing.T) {
	for _, s := range append(worldTexts(), wrongWorld, towerWorld, selfWorld, numberWorld, lengthWorld, "O E", "E;E x", "A B C D E;A i") {
		w, same := withRoom(worldOf(s)), withRoom(worldOf(s))
		for _, text := range []string{"E i", "E l(i)", "E p(i,i)", "O x", "O p(i,p(i,i))", "D p(p(i,i),p(i,i))", "A q"} {
			for _, depth := range []int{-1, 0, 3, 6} {
				impl.AllDicts(w, needOf(text), depth)
				impl.CountDicts(w, needOf(text), depth)
				impl.LeastDict(w, needOf(text), depth)
				impl.IsUnique(w, needOf(text), depth)
				impl.InstancesUsed(w, needOf(text), depth)
			}
			impl.LevelOf(w, needOf(text))
		}
		if !reflect.DeepEqual(behind(w), behind(same)) {
			t.Errorf("the world %q became %q", s, w)
		}
	}
}
