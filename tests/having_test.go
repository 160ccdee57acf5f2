package tests

import (
	"cmp"
	"math"
	"math/rand"
	"reflect"
	"runtime"
	"slices"
	"strconv"
	"strings"
	"testing"
	"time"

	"loop.example/instancesearch/impl"
)

// The small types of each size, in their order.
const (
	size1 = "i b u"
	size2 = "l(i) l(b) l(u) m(i) m(b) m(u)"
	size3 = "l(l(i)) l(l(b)) l(l(u)) l(m(i)) l(m(b)) l(m(u)) m(l(i)) m(l(b)) m(l(u)) m(m(i)) m(m(b)) m(m(u)) p(i,i) p(i,b) p(i,u) p(b,i) p(b,b) p(b,u) p(u,i) p(u,b) p(u,u)"
	size4 = "l(l(l(i))) l(l(l(b))) l(l(l(u))) l(l(m(i))) l(l(m(b))) l(l(m(u))) l(m(l(i))) l(m(l(b))) l(m(l(u))) l(m(m(i))) l(m(m(b))) l(m(m(u))) l(p(i,i)) l(p(i,b)) l(p(i,u)) l(p(b,i)) l(p(b,b)) l(p(b,u)) l(p(u,i)) l(p(u,b)) l(p(u,u)) " +
		"m(l(l(i))) m(l(l(b))) m(l(l(u))) m(l(m(i))) m(l(m(b))) m(l(m(u))) m(m(l(i))) m(m(l(b))) m(m(l(u))) m(m(m(i))) m(m(m(b))) m(m(m(u))) m(p(i,i)) m(p(i,b)) m(p(i,u)) m(p(b,i)) m(p(b,b)) m(p(b,u)) m(p(u,i)) m(p(u,b)) m(p(u,u)) " +
		"p(i,l(i)) p(i,l(b)) p(i,l(u)) p(i,m(i)) p(i,m(b)) p(i,m(u)) p(b,l(i)) p(b,l(b)) p(b,l(u)) p(b,m(i)) p(b,m(b)) p(b,m(u)) p(u,l(i)) p(u,l(b)) p(u,l(u)) p(u,m(i)) p(u,m(b)) p(u,m(u)) " +
		"p(l(i),i) p(l(i),b) p(l(i),u) p(l(b),i) p(l(b),b) p(l(b),u) p(l(u),i) p(l(u),b) p(l(u),u) p(m(i),i) p(m(i),b) p(m(i),u) p(m(b),i) p(m(b),b) p(m(b),u) p(m(u),i) p(m(u),b) p(m(u),u)"
)

func textsText(list []string, ok bool) string {
	return listText(list, ok, " ", func(s string) string { return s })
}

// smallText returns the text of all small types of at most a size.
func smallText(n int) string { return strings.Join([]string{size1, size2, size3, size4}[:n], " ") }

// sizesThatAreOut has sizes that no small types have; some of them are like others in their last bits.
func sizesThatAreOut() []int {
	return []int{0, -1, -2, -3, -4, 5, 6, 7, 60, 1000, 1<<8 + 1, 1<<16 + 2, 1<<32 + 3, -1<<32 + 4, math.MaxInt32, math.MinInt32, math.MaxInt, math.MaxInt - 1, math.MinInt, math.MinInt + 1, math.MinInt + 4}
}

func TestSmallTypes(t *testing.T) {
	if impl.MaxSmall != 4 {
		t.Error("the limit of small types is another one")
	}
	for n, count := range map[int]int{1: 3, 2: 9, 3: 30, 4: 108} {
		list, ok := impl.SmallTypes(n)
		if got := textsText(list, ok); got != smallText(n) || len(list) != count {
			t.Errorf("SmallTypes(%d) = %q, %v, which are %d, not %d", n, got, ok, len(list), count)
		}
	}
	for _, n := range sizesThatAreOut() {
		if list, ok := impl.SmallTypes(n); ok || len(list) != 0 {
			t.Errorf("SmallTypes(%d) = %.300q, %v", n, list, ok)
		}
	}
}

func lettersIn(s string) int {
	return len(s) - strings.Count(s, "(") - strings.Count(s, ")") - strings.Count(s, ",")
}

// compareSmall compares sizes, then first letters, and then parts in the same way.
func compareSmall(a, b string) int {
	heads := "ibulmp"
	if order := cmp.Or(cmp.Compare(lettersIn(a), lettersIn(b)), cmp.Compare(strings.IndexByte(heads, a[0]), strings.IndexByte(heads, b[0]))); order != 0 || len(a) == 1 {
		return order
	}
	first, other := partAt(a, 2), partAt(b, 2)
	if order := compareSmall(first, other); order != 0 || a[0] != 'p' {
		return order
	}
	return compareSmall(partAt(a, 3+len(first)), partAt(b, 3+len(other)))
}

// TestSmallTypesAreAllTypes holds that the small types are all types of some letters, put in order by comparing them.
func TestSmallTypesAreAllTypes(t *testing.T) {
	all := typesFrom("ibu", "lm", 14)
	slices.SortFunc(all, compareSmall)
	for n := 1; n <= impl.MaxSmall; n++ {
		var want []string
		for _, s := range all {
			if lettersIn(s) <= n {
				want = append(want, s)
			}
		}
		list, _ := impl.SmallTypes(n)
		if !slices.Equal(list, want) {
			t.Errorf("SmallTypes(%d) = %q, want %q", n, list, want)
		}
		for _, s := range list {
			if !impl.IsGround(s) || impl.SizeOf(s) > n {
				t.Errorf("SmallTypes(%d) has %q", n, s)
			}
		}
	}
}

// A having has what the functions of types that have a class return for a class of a world and a size: texts of
// lists, all of which are "" if there are none.
type having struct {
	class                 string
	n                     int
	types, dicts, numbers string
}

// checkHaving holds the functions of one class against texts, and each pair of worlds and of classes that are the same.
func checkHaving(t *testing.T, w impl.World, want having) {
	t.Helper()
	same, within := "", want.numbers != ""
	if within {
		same = "-"
	}
	numbers, ok := impl.WhyNot(w, want.class, want.n)
	for _, c := range []struct{ name, got, want string }{
		{"TypesHaving", textsText(impl.TypesHaving(w, want.class, want.n)), want.types}, {"DictsOf", textsText(impl.DictsOf(w, want.class, want.n)), want.dicts}, {"WhyNot", indicesText(numbers, ok), want.numbers},
		{"ChangedBy the same", textsText(impl.ChangedBy(w, w, want.class, want.n)), same}, {"IsWithin itself", strconv.FormatBool(impl.IsWithin(w, want.class, want.class, want.n)), strconv.FormatBool(within)},
	} {
		if c.got != c.want {
			t.Errorf("%s(%.300q, %.300q, %d) = %q, want %q", c.name, w, want.class, want.n, c.got, c.want)
		}
	}
	if small, _ := impl.SmallTypes(want.n); ok && (len(numbers) != 4 || numbers[0]+numbers[1]+numbers[2]+numbers[3] != len(small)) {
		t.Errorf("WhyNot(%q, %q, %d) = %v, which are not those of %d types", impl.FormatWorld(w), want.class, want.n, numbers, len(small))
	}
}

func checkHavings(t *testing.T, world string, list ...having) {
	t.Helper()
	w := validWorld(t, world)
	for _, c := range list {
		checkHaving(t, w, c)
	}
}

func TestTypesThatHaveAClass(t *testing.T) {
	checkHavings(t, "E O;E i;E l(x):E x;E m(b);O i;O l(i)",
		having{"E", 1, "i", "0", "1 2 0 0"}, having{"E", 2, "i l(i) m(b)", "0 1(0) 2", "3 6 0 0"}, having{"E", 3, "i l(i) m(b) l(l(i)) l(m(b))", "0 1(0) 2 1(1(0)) 1(2)", "5 25 0 0"},
		having{"E", 4, "i l(i) m(b) l(l(i)) l(m(b)) l(l(l(i))) l(l(m(b)))", "0 1(0) 2 1(1(0)) 1(2) 1(1(1(0))) 1(1(2))", "7 101 0 0"},
		having{"O", 1, "i", "3", "1 2 0 0"}, having{"O", 2, "i l(i)", "3 4", "2 7 0 0"}, having{"O", 3, "i l(i)", "3 4", "2 28 0 0"}, having{"O", 4, "i l(i)", "3 4", "2 106 0 0"})
	checkHavings(t, "E O<E;E i;E b;E l(x):E x;E p(x,y):E x&E y;O i;O l(x):O x",
		having{"O", 2, "i l(i)", "4 5(4)", "2 7 0 0"}, having{"E", 2, "i b l(i) l(b)", "0 1 2(0) 2(1)", "4 5 0 0"},
		having{"E", 3, "i b l(i) l(b) l(l(i)) l(l(b)) p(i,i) p(i,b) p(b,i) p(b,b)", "0 1 2(0) 2(1) 2(2(0)) 2(2(1)) 3(0,0) 3(0,1) 3(1,0) 3(1,1)", "10 20 0 0"})
	// The order is that of the types, not that of the instances or of the dictionaries.
	checkHavings(t, "E;E p(x,y):E y;E m(x):E x;E l(x):E x;E u;E i;E b:E i", having{"E", 1, "i b u", "4 5(4) 3", "3 0 0 0"},
		having{"E", 3, smallText(3), "4 5(4) 3 2(4) 2(5(4)) 2(3) 1(4) 1(5(4)) 1(3) 2(2(4)) 2(2(5(4))) 2(2(3)) 2(1(4)) 2(1(5(4))) 2(1(3)) 1(2(4)) 1(2(5(4))) 1(2(3)) 1(1(4)) 1(1(5(4))) 1(1(3)) 0(4) 0(5(4)) 0(3) 0(4) 0(5(4)) 0(3) 0(4) 0(5(4)) 0(3)", "30 0 0 0"})
	// A variable that stands twice, and needs of types that the instance names itself or makes greater.
	checkHavings(t, "E O;E p(x,x):E x;E i;E p(x,l(y)):E i;O l(x):E p(x,l(x));O m(x):E p(x,x);O u:E l(i)",
		having{"E", 4, "i p(i,i) p(i,l(i)) p(i,l(b)) p(i,l(u)) p(b,l(i)) p(b,l(b)) p(b,l(u)) p(u,l(i)) p(u,l(b)) p(u,l(u))", "1 0(1) 2(1) 2(1) 2(1) 2(1) 2(1) 2(1) 2(1) 2(1) 2(1)", "11 97 0 0"},
		having{"O", 2, "l(i) l(b) l(u) m(i)", "3(2(1)) 3(2(1)) 3(2(1)) 4(0(1))", "4 5 0 0"})
	// Classes above and below are others.
	checkHavings(t, "E O<E S<O;E i;O b;S u", having{"E", 1, "i", "0", "1 2 0 0"}, having{"O", 1, "b", "1", "1 2 0 0"}, having{"S", 1, "u", "2", "1 2 0 0"})
}

func TestWorldsInWhichAllTypesHaveAClass(t *testing.T) {
	for n, count := range map[int]string{1: "3 0 0 0", 2: "9 0 0 0", 3: "30 0 0 0", 4: "108 0 0 0"} {
		// One dictionary may be that of many types.
		heads := strings.NewReplacer("i", "0", "b", "1", "u", "2", "l", "3", "m", "4", "p", "5")
		var dicts []string
		for _, s := range strings.Fields(smallText(n)) {
			dicts = append(dicts, heads.Replace(s[:1]))
		}
		checkHavings(t, "E;E i;E b;E u;E l(x);E m(x);E p(x,y)", having{"E", n, smallText(n), strings.Join(dicts, " "), count})
		checkHavings(t, "E;E i;E b;E u;E l(x):E x;E m(x):E x;E p(x,y):E x&E y", having{"E", n, smallText(n), heads.Replace(smallText(n)), count})
	}
}

func TestWorldsInWhichNoTypeHasAClass(t *testing.T) {
	for n, count := range map[int]string{1: "0 3 0 0", 2: "0 9 0 0", 3: "0 30 0 0", 4: "0 108 0 0"} {
		checkHavings(t, "E", having{"E", n, "-", "-", count})
		checkHavings(t, "A B C D", having{"A", n, "-", "-", count}, having{"D", n, "-", "-", count})
		checkHavings(t, "E O<E S<EO;E i", having{"O", n, "-", "-", count}, having{"S", n, "-", "-", count})
		// Only greater types have it, or none has.
		checkHavings(t, "E;E l(l(l(l(x))));E p(p(x,y),z):E i;E p(x,p(i,l(y)))", having{"E", n, "-", "-", count})
		checkHavings(t, "E O;E l(x):O x;E i:O i;E m(x):E x;E p(x,y):E y", having{"E", n, "-", "-", count})
	}
}

// tripling returns a dictionary of the last of some digits, and those in front of it that have the one behind three times.
func tripling(digits string) string {
	if len(digits) == 1 {
		return digits
	}
	inner := tripling(digits[1:])
	return digits[:1] + "(" + inner + "," + inner + "," + inner + ")"
}

func TestWhyTypesDoNotHaveAClass(t *testing.T) {
	// Several dictionaries, or several candidates, of which one or none has dictionaries of its needs.
	checkHavings(t, "E;E i;E l(x):E x;E l(i)", having{"E", 1, "i", "0", "1 2 0 0"}, having{"E", 2, "i", "0", "1 7 1 0"}, having{"E", 3, "i", "0", "1 27 2 0"}, having{"E", 4, "i", "0", "1 104 3 0"})
	checkHavings(t, "E;E i;E l(x):E x;E l(b)", having{"E", 2, "i l(i)", "0 1(0)", "2 6 1 0"}, having{"E", 3, "i l(i) l(l(i))", "0 1(0) 1(1(0))", "3 25 2 0"})
	checkHavings(t, "E;E i;E l(x):E x;E l(b):E u", having{"E", 2, "i l(i)", "0 1(0)", "2 6 1 0"})
	checkHavings(t, "E;E i;E i;E b", having{"E", 1, "b", "2", "1 1 1 0"}, having{"E", 2, "b", "2", "1 7 1 0"})
	checkHavings(t, "E O<E;E i;E b;E l(x):E x;E p(x,y):E x&E y;O i;O l(x):O x;E l(i)", having{"E", 2, "i b l(b)", "0 1 2(1)", "3 5 1 0"}, having{"O", 2, "i l(i)", "4 5(4)", "2 7 0 0"})
	// deep, and big.
	checkHavings(t, "E;E l(x):E l(x);E i", having{"E", 1, "i", "1", "1 2 0 0"}, having{"E", 2, "i", "1", "1 5 0 3"}, having{"E", 3, "i", "1", "1 20 0 9"}, having{"E", 4, "i", "1", "1 77 0 30"})
	checkHavings(t, "E;E l(x):E l(p(x,x));E i", having{"E", 2, "i", "1", "1 5 0 3"}, having{"E", 3, "i", "1", "1 20 0 9"})
	// long: a type asks for 1, 4, 13, 40 or 121 needs if it has the class, the others would ask for 364 and 1093.
	checkHavings(t, "E;E i:E b&E b&E b;E b:E u&E u&E u;E u:E l(i)&E l(i)&E l(i);E l(i):E l(b)&E l(b)&E l(b);E l(b):E l(u)&E l(u)&E l(u);E l(u):E m(i)&E m(i)&E m(i);E m(i)",
		having{"E", 1, "u", tripling("23456"), "1 0 0 2"}, having{"E", 2, "u l(i) l(b) l(u) m(i)", strings.Join([]string{tripling("23456"), tripling("3456"), tripling("456"), tripling("56"), "6"}, " "), "5 2 0 2"})
	// 300 needs, and 301.
	four, three, two := tripling("33332"), tripling("3332"), tripling("332")
	checkHavings(t, "E O;E i:O l(l(l(l(i))))&O l(l(l(l(i))))&O m(m(u));E b:O l(l(l(l(i))))&O l(l(l(l(i))))&O m(m(m(u)));O i;O l(x):O x&O x&O x;O m(x):O x;O u:O l(l(l(i)))&O l(l(i))&O i",
		having{"E", 1, "i", "0(" + four + "," + four + ",4(4(5(" + three + "," + two + ",2))))", "1 1 0 1"})
}

func TestReasonsToldApart(t *testing.T) {
	// Of the types that have the class: i; none: u; many: b; deep: those with l; big: those with m; long: those with p.
	checkHavings(t, "E O;E i;E b;E b;E l(x):E l(x);E m(x):E m(p(x,x));E p(x,y):O l(l(l(l(l(i)))));O l(x):O x&O x&O x;O i",
		having{"E", 1, "i", "0", "1 1 1 0"}, having{"E", 2, "i", "0", "1 1 1 6"}, having{"E", 3, "i", "0", "1 1 1 27"}, having{"E", 4, "i", "0", "1 1 1 105"},
		having{"O", 1, "i", "7", "1 2 0 0"}, having{"O", 2, "i l(i)", "7 6(7,7,7)", "2 7 0 0"})
	// Those of needs, the first of which that fails tells the reason.
	checkHavings(t, "E;E i;E l(x):E x;E b;E b;E m(x):E m(x);E p(x,y):E x&E y",
		having{"E", 1, "i", "0", "1 1 1 0"}, having{"E", 2, "i l(i)", "0 1(0)", "2 2 2 3"}, having{"E", 3, "i l(i) l(l(i)) p(i,i)", "0 1(0) 1(1(0)) 5(0,0)", "4 7 7 12"})
	checkHavings(t, "E O S T;E l(x):O x;E m(x):S x;E p(x,y):T x;O i:O i;S i;S i;T i:T l(i);T l(x):T p(x,x);T p(x,y):T p(p(x,y),x)",
		having{"E", 2, "-", "-", "0 7 1 1"}, having{"E", 3, "-", "-", "0 25 1 4"}, having{"O", 1, "-", "-", "0 2 0 1"}, having{"S", 1, "-", "-", "0 2 1 0"}, having{"T", 2, "-", "-", "0 5 0 4"})
}

// checkChanged holds what ChangedBy returns for two worlds, in both orders, against a text.
func checkChanged(t *testing.T, w, v impl.World, class string, n int, want string) {
	t.Helper()
	for range 2 {
		if got := textsText(impl.ChangedBy(w, v, class, n)); got != want {
			t.Errorf("ChangedBy(%.300q, %.300q, %.300q, %d) = %q, want %q", w, v, class, n, got, want)
		}
		w, v = v, w
	}
}

// A change has two worlds, a class and a size, and the types that ChangedBy returns.
type change struct {
	world, other, class string
	n                   int
	types               string
}

func checkChanges(t *testing.T, list ...change) {
	t.Helper()
	for _, c := range list {
		checkChanged(t, worldOf(c.world), worldOf(c.other), c.class, c.n, c.types)
	}
}

func TestTypesThatAreChanged(t *testing.T) {
	first := "E O;E i;E l(x):E x;E m(b);O i;O l(i)"
	checkChanges(t, change{first, first + ";E l(i);E b", "E", 1, "b"}, change{first, first + ";E l(i);E b", "E", 2, "b l(i) l(b)"}, change{first, first + ";E l(i);E b", "E", 3, "b l(i) l(b) l(l(i)) l(l(b))"}, change{first, first + ";E l(i);E b", "O", 4, "-"},
		change{first, "E O", "E", 2, "i l(i) m(b)"}, change{first, "E O", "O", 2, "i l(i)"}, change{first, "E O", "O", 1, "i"}, change{first, "E", "E", 1, "i"}, change{first, "E", "O", 2, ""}, change{first, "O", "E", 2, ""}, change{first, "O", "O", 4, "i l(i)"},
		// Some have it in the one world alone, some in the other one, and some in both.
		change{"E;E i;E u", "E;E b;E u", "E", 1, "i b"}, change{"E;E u;E l(x):E x", "E;E i;E m(x):E x", "E", 2, "i u l(u) m(i)"}, change{"E;E u;E l(x):E x;E i", "E;E i;E l(x):E x;E b", "E", 3, "b u l(b) l(u) l(l(b)) l(l(u))"},
		change{"E;E p(x,y);E l(i)", "E;E p(x,x);E l(b)", "E", 3, "l(i) l(b) p(i,b) p(i,u) p(b,i) p(b,u) p(u,i) p(u,b)"},
		// Other dictionaries, instances in another order, other needs, variables or reasons change nothing.
		change{"E;E i;E b", "E;E b;E i", "E", 2, "-"}, change{"E;E i;E l(x):E x", "E;E l(y):E y;E i:E l(l(i))&E i", "E", 1, "i"}, change{"E;E i;E l(x):E x", "E;E b;E l(Z):E Z;E i:E b", "E", 2, "b l(b)"}, change{"E;E i;E l(x):E i", "E;E i;E l(x)", "E", 4, "-"},
		change{"E;E i;E i", "E", "E", 1, "-"}, change{"E;E i;E i", "E;E i:E i", "E", 4, "-"}, change{"E;E l(x):E l(p(x,x))", "E;E l(x):E x&E l(x)", "E", 4, "-"}, change{"E;E l(i);E l(x)", "E;E l(b);E l(u)", "E", 2, "-"}, change{"E;E l(i);E l(x)", "E;E l(b);E l(i)", "E", 2, "l(i) l(u)"},
		// None, and all.
		change{"E", "E", "E", 4, "-"}, change{"E;E i;E b;E u;E l(x);E m(x);E p(x,y)", "E", "E", 4, smallText(4)}, change{"E;E i;E b;E u;E l(x);E m(x);E p(x,y)", "E;E i;E b;E u;E l(x):E x;E m(x):E x;E p(x,y):E y&E x", "E", 4, "-"},
		// The first ones and the last one alone.
		change{"E;E i", "E", "E", 4, "i"}, change{"E;E p(m(u),u)", "E", "E", 4, "p(m(u),u)"}, change{"E;E p(m(u),u)", "E", "E", 3, "-"},
		// The worlds may have other classes, and others above.
		change{"E O<E;E i;O i", "E O S;E b;O i", "E", 1, "i b"}, change{"E O<E;E i;O i", "E O S;E b;O i", "O", 1, "-"}, change{"E O<E;E i;O i", "E O S;E b;O i", "S", 1, ""}, change{"A E;E i", "E T;E b", "E", 1, "i b"}, change{"A E;E i", "E T;E b", "A", 1, ""}, change{"A E;E i", "E T;E b", "T", 1, ""})
}

// checkWithin holds what IsWithin returns for pairs such as "E O+" or "O E-", + for true.
func checkWithin(t *testing.T, world string, n int, pairs ...string) {
	t.Helper()
	w := worldOf(world)
	for _, s := range pairs {
		class, other, _ := strings.Cut(s[:len(s)-1], " ")
		if got := impl.IsWithin(w, class, other, n); got != strings.HasSuffix(s, "+") {
			t.Errorf("IsWithin(%q, %q, %q, %d) = %v", world, class, other, n, got)
		}
	}
}

func TestClassesWithinOthers(t *testing.T) {
	world := "E O;E i;E l(x):E x;E m(b);O i;O l(i)"
	checkWithin(t, world, 1, "O E+", "E O+", "O O+", "E E+")
	checkWithin(t, world, 2, "O E+", "E O-", "E E+")
	checkWithin(t, world, 4, "O E+", "E O-", "O O+")
	// Neither one is within the other one.
	checkWithin(t, "E O;E i;O b", 1, "E O-", "O E-")
	checkWithin(t, "E O;E i;E b;O b;O u", 3, "E O-", "O E-", "E E+", "O O+")
	// Classes that no small type has, or all have.
	checkWithin(t, "E O S;E i", 4, "O E+", "E O-", "O S+", "S O+", "O O+", "S E+", "E S-")
	checkWithin(t, "A B C;C i;C b;C u;C l(x);C m(x);C p(x,y);B i", 4, "C C+", "B C+", "A C+", "C B-", "C A-", "A B+", "B A-")
	// One type, the first one or the last one, that does not have the other class.
	for _, s := range []string{"i", "u", "l(i)", "m(u)", "p(u,u)", "l(l(l(i)))", "p(i,m(b))", "p(m(u),u)"} {
		size := lettersIn(s)
		checkWithin(t, "E O;E "+s+";O l(l(l(l(i))))", size, "E O-", "O E+", "E E+")
		checkWithin(t, "E O;E "+s+";O "+s, size, "E O+", "O E+")
		checkWithin(t, "E O;E "+s, max(size-1, 1), map[bool]string{true: "E O-", false: "E O+"}[size == 1], "O E+")
	}
	// It is the search that counts: with several dictionaries a type does not have a class, and a class above does not follow.
	checkWithin(t, "E O;E i;O i;O i", 2, "E O-", "O E+")
	checkWithin(t, "E O<E;O i;E b", 2, "O E-", "E O-")
	checkWithin(t, "E O<E;O i;O l(x):O x;E i;E l(x):E x", 4, "O E+", "E O+")
	checkWithin(t, "E O<E;O l(x);E i;E l(x):E x", 1, "O E+", "E O-")
	checkWithin(t, "E O<E;O l(x);E i;E l(x):E x", 2, "O E-", "E O-")
	checkWithin(t, "E O;E i;E l(x):E l(x);O i;O l(x)", 4, "E O+", "O E-")
	// Classes that the world does not have, also the same one twice.
	checkWithin(t, world, 2, "O A-", "A O-", "A A-", "A B-", " -", "E -", " E-", "EO E-", "E EO-", "E e-", "E E -")
}

// checkNoHaving holds that there is nothing for a class of a world and a size, alone or together with those of which there is.
func checkNoHaving(t *testing.T, w impl.World, class string, n int) {
	t.Helper()
	checkHaving(t, w, having{class: class, n: n})
	if numbers, ok := impl.WhyNot(w, class, n); ok || len(numbers) != 0 {
		t.Errorf("WhyNot(%.300q, %.300q, %d) = %v, %v", w, class, n, numbers, ok)
	}
	for _, other := range []impl.World{worldOf("E;E i"), worldOf("A B<A E O<E;E i;O b;A u"), worldOf("E O S T")} {
		checkChanged(t, w, other, class, n, "")
	}
	for _, other := range []string{"E", "O", "A", "T", ""} {
		if impl.IsWithin(w, class, other, n) || impl.IsWithin(w, other, class, n) {
			t.Errorf("IsWithin(%.300q) of %.300q and %q, with %d, = true", w, class, other, n)
		}
	}
}

func TestHavingInWorldsThatAreNotValid(t *testing.T) {
	list := append(worldsThatAreNotValid(), worldOf("E O;E i;O i;E x"), worldOf("O E;E i;O i"), worldOf("E O<S;E i"), worldOf("E O;E i:E i&E i&E i&E i"), worldOf("E O"+strings.Repeat(";E i", 11)))
	for _, s := range classesThatAreNotValid() {
		list = append(list, impl.World{Classes: classesOf(s)}, impl.World{Classes: classesOf(s), Instances: []impl.Instance{instanceOf("E i"), instanceOf("A i")}})
	}
	for _, s := range instancesThatAreNotValid() {
		for place := range 2 {
			w := worldOf(threeClasses + ";E i")
			w.Instances = slices.Insert(w.Instances, place, instanceOf(s))
			list = append(list, w)
		}
	}
	for k, w := range list {
		for _, class := range []string{"E", "O", "A", ""} {
			checkNoHaving(t, w, class, 1+k%4)
			checkNoHaving(t, w, class, 0)
		}
	}
}

func TestClassesThatTheWorldDoesNotHave(t *testing.T) {
	for k, s := range []string{"E O<E S;E i;O i;S l(x):E x", "E O", "E;E i;E i"} {
		w := validWorld(t, s)
		texts := append(textsThatAreNoClasses(), "A", "B", "D", "F", "N", "P", "R", "T")
		for b := range 256 {
			if own := string([]byte{byte(b)}); !impl.HasClass(w, own) {
				texts = append(texts, own, "E"+own)
			}
		}
		for _, class := range texts {
			if class != "E" && class != "O" {
				checkNoHaving(t, w, class, 1+k)
			}
		}
	}
	checkNoHaving(t, worldOf("E;E i"), "O", 3)
	checkNoHaving(t, worldOf("A O<A;A i"), "E", 4)
}

func TestSizesThatAreOut(t *testing.T) {
	for _, n := range sizesThatAreOut() {
		for _, s := range []string{"E;E i", "E O;E i;O l(x)", "E O", "A B C D E", "E;E x"} {
			for _, class := range []string{"E", "O", "A", ""} {
				checkNoHaving(t, worldOf(s), class, n)
			}
		}
	}
}

// havingByTexts returns what the functions return for a class of a world, by searches in texts.
func havingByTexts(w impl.World, class string, n int) having {
	numbers := map[string]int{}
	var types, dicts []string
	for _, s := range strings.Fields(smallText(n)) {
		found := searchByTexts(w, impl.Need{Class: class, Type: s}, noChoice)
		numbers[found.why]++
		if found.why == "" {
			types, dicts = append(types, s), append(dicts, found.dict)
		}
	}
	others := numbers["long"] + numbers["deep"] + numbers["big"]
	return having{class, n, textsText(types, true), textsText(dicts, true), indicesText([]int{numbers[""], numbers["none"], numbers["many"], others}, true)}
}

// onlyIn returns the types of one text that another one does not have.
func onlyIn(types, other string) []string {
	var list []string
	for _, s := range strings.Fields(strings.Trim(types, "-")) {
		if !slices.Contains(strings.Fields(other), s) {
			list = append(list, s)
		}
	}
	return list
}

// changedWorld returns a world with one instance less or more, or with the needs of one taken away.
func changedWorld(r *rand.Rand, w impl.World) impl.World {
	names := ""
	for _, c := range w.Classes {
		names += c.Name
	}
	k := r.Intn(max(len(w.Instances), 1))
	other, ok := impl.WithInstance(w, searchedInstance(r, names))
	if !ok || r.Intn(2) == 0 {
		other, ok = impl.WithoutInstance(w, k)
	}
	if !ok || r.Intn(4) == 0 {
		return worldOf(impl.FormatWorld(impl.World{Classes: w.Classes}))
	}
	return other
}

func TestHavingInManyWorlds(t *testing.T) {
	r := rand.New(rand.NewSource(31))
	counts := map[string]int{}
	for k := range 500 {
		w := []func(r *rand.Rand) impl.World{searchedWorld, fullWorld, aboveWorld, layeredWorld, highWorld, manyWorld, closableWorld}[k%7](r)
		n := 1 + r.Intn(3)
		if k%10 == 0 {
			n = 4
		}
		v := changedWorld(r, w)
		if !impl.WorldValid(w) || !impl.WorldValid(v) {
			t.Fatalf("the worlds %q and %q of this test are not valid", w, v)
		}
		lists := map[string]string{}
		for _, c := range w.Classes {
			want, other := havingByTexts(w, c.Name, n), havingByTexts(v, c.Name, n)
			checkHaving(t, w, want)
			lists[c.Name] = want.types
			changed := append(onlyIn(want.types, other.types), onlyIn(other.types, want.types)...)
			slices.SortFunc(changed, compareSmall)
			checkChanged(t, w, v, c.Name, n, textsText(changed, true))
			for place, number := range strings.Fields(want.numbers) {
				if number != "0" {
					counts["number "+strconv.Itoa(place)]++
				}
			}
			if len(changed) > 1 {
				counts["changed"]++
			}
		}
		for class, types := range lists {
			for other, others := range lists {
				want := len(onlyIn(types, others)) == 0
				if got := impl.IsWithin(w, class, other, n); got != want {
					t.Errorf("IsWithin(%q, %q, %q, %d) = %v", impl.FormatWorld(w), class, other, n, got)
				}
				if types != "-" && class != other {
					counts["within "+strconv.FormatBool(want)]++
				}
			}
		}
		if t.Failed() {
			return
		}
	}
	for _, name := range []string{"number 0", "number 1", "number 2", "number 3", "changed", "within true", "within false"} {
		if counts[name] < 30 {
			t.Errorf("of the classes of this test, %d are so: %s", counts[name], name)
		}
	}
}

// TestHavingIsFoundBySearches holds the functions against those of chapter 5.
func TestHavingIsFoundBySearches(t *testing.T) {
	r := rand.New(rand.NewSource(32))
	for k := range 100 {
		w := []func(r *rand.Rand) impl.World{aboveWorld, highWorld}[k%2](r)
		for _, c := range w.Classes {
			var types, dicts []string
			reasons := map[string]int{}
			small, _ := impl.SmallTypes(4)
			for _, s := range small {
				n := impl.Need{Class: c.Name, Type: s}
				dict, why := impl.FindDict(w, n)
				reasons[why]++
				if impl.HasInstance(w, n) {
					types, dicts = append(types, s), append(dicts, dict)
				}
			}
			others := len(small) - reasons[""] - reasons["none"] - reasons["many"]
			checkHaving(t, w, having{c.Name, 4, textsText(types, true), textsText(dicts, true), indicesText([]int{reasons[""], reasons["none"], reasons["many"], others}, true)})
		}
	}
}

// TestClosedWorldsHaveClassesWithinThoseAbove holds that each class is within those above it, in worlds in which no
// search for a small type is long.
func TestClosedWorldsHaveClassesWithinThoseAbove(t *testing.T) {
	r := rand.New(rand.NewSource(33))
	counts := map[string]int{}
	for range 250 {
		w := closableWorld(r)
		closed, ok := impl.CloseWorld(w)
		for _, c := range w.Classes {
			for _, above := range strings.Split(impl.SupersOf(w, c.Name), "") {
				if above != "" && !impl.IsWithin(w, c.Name, above, 4) {
					counts["not within before"]++
				}
				if above == "" || !ok {
					continue
				}
				if !impl.IsWithin(closed, c.Name, above, 4) {
					t.Errorf("in the closed world %q, %s is not within %s", impl.FormatWorld(closed), c.Name, above)
				}
				if list, _ := impl.TypesHaving(closed, c.Name, 4); len(list) > 0 {
					counts["within"]++
				}
			}
		}
	}
	if counts["not within before"] < 30 || counts["within"] < 30 {
		t.Errorf("this test has the counts %v", counts)
	}
}

func TestListsOfTypesAreNewMemory(t *testing.T) {
	w, v := withRoom(validWorld(t, "E O;E i;E l(x):E x;E b:E i")), validWorld(t, "E;E b;E m(x):E x")
	for k, call := range []func() ([]string, bool){
		func() ([]string, bool) { return impl.SmallTypes(1) }, func() ([]string, bool) { return impl.SmallTypes(4) }, func() ([]string, bool) { return impl.TypesHaving(w, "E", 3) },
		func() ([]string, bool) { return impl.DictsOf(w, "E", 3) }, func() ([]string, bool) { return impl.ChangedBy(w, v, "E", 3) }, func() ([]string, bool) { return impl.ChangedBy(v, w, "E", 3) },
	} {
		first, ok := call()
		second, _ := call()
		want := slices.Clone(second)
		clear(first[:cap(first)])
		third, _ := call()
		if !ok || len(want) < 3 || slices.Contains(want, "") || !slices.Equal(second, want) || !slices.Equal(third, want) {
			t.Errorf("results of the call %d share memory: %q, %q", k, second, third)
		}
	}
	first, _ := impl.WhyNot(w, "E", 2)
	second, _ := impl.WhyNot(w, "E", 2)
	clear(first[:cap(first)])
	if indicesText(second, true) != "4 5 0 0" || indicesText(impl.WhyNot(w, "E", 2)) != "4 5 0 0" {
		t.Errorf("results of WhyNot share memory: %v", second)
	}
	// What is found stays as it is when the world is changed.
	types, _ := impl.TypesHaving(w, "E", 2)
	dicts, _ := impl.DictsOf(w, "E", 2)
	changed, _ := impl.ChangedBy(w, v, "E", 2)
	spoil(w)
	if got := textsText(types, true) + ";" + textsText(dicts, true) + ";" + textsText(changed, true); got != "i b l(i) l(b);0 2(0) 1(0) 1(2(0));i l(i) l(b) m(b)" {
		t.Errorf("results share memory with an argument: %q", got)
	}
}

func TestHavingLeavesWorldsAsTheyAre(t *testing.T) {
	for _, s := range append(worldTexts(), counting, askedWorld(300, ""), "E;E i;E l(x):E l(x)", "O E", "E;E x", "E O<E;E l(x):E y", "A B C D E;A i") {
		w, v, same := withRoom(worldOf(s)), withRoom(worldOf("E O;E i;O i")), withRoom(worldOf(s))
		for n := range 5 {
			for _, class := range []string{"E", "O", "A", ""} {
				impl.TypesHaving(w, class, n)
				impl.DictsOf(w, class, n)
				impl.WhyNot(w, class, n)
				impl.ChangedBy(w, v, class, n)
				impl.ChangedBy(v, w, class, n)
				impl.IsWithin(w, class, "E", n)
			}
		}
		if !reflect.DeepEqual(behind(w), behind(same)) || !reflect.DeepEqual(behind(v), behind(withRoom(worldOf("E O;E i;O i")))) {
			t.Errorf("the world %q became %q, the other one %q", s, w, v)
		}
	}
}

// TestHavingLeavesNoGoroutines waits for those that have nothing left to do, as they may end behind a call.
func TestHavingLeavesNoGoroutines(t *testing.T) {
	w, v := worldOf("E O;E i;O i;E l(x):E x"), worldOf("E O;E b")
	before := runtime.NumGoroutine()
	for k := range 100 {
		n := 1 + k%4
		impl.ChangedBy(w, v, "E", n)
		impl.ChangedBy(w, worldOf("A"), "E", n)
		impl.ChangedBy(w, w, "O", n-1)
		impl.IsWithin(w, "E", "O", n)
		impl.IsWithin(w, "O", "E", n)
		impl.IsWithin(w, "O", "S", n)
		impl.TypesHaving(w, "E", n)
		impl.WhyNot(w, "E", n)
		impl.DictsOf(w, "E", n)
	}
	for range 200 {
		if runtime.NumGoroutine() <= before {
			return
		}
		time.Sleep(5 * time.Millisecond)
	}
	t.Errorf("there were %d goroutines before the calls and are %d behind them", before, runtime.NumGoroutine())
}

// TestHavingAtTheSameTime has calls for the same worlds, which have to return the same each time.
func TestHavingAtTheSameTime(t *testing.T) {
	w, v := validWorld(t, "E O;E i;E l(x):E x;E m(b);O i;O l(i)"), validWorld(t, "E O;E i;E l(x):E x;E m(b);O i;O l(i);E l(i);E b")
	runAtOnce(10, func() {
		checkHaving(t, w, having{"E", 3, "i l(i) m(b) l(l(i)) l(m(b))", "0 1(0) 2 1(1(0)) 1(2)", "5 25 0 0"})
		checkHaving(t, v, having{"E", 2, "i b l(b) m(b)", "0 6 1(6) 2", "4 4 1 0"})
		checkChanged(t, w, v, "E", 2, "b l(i) l(b)")
		if !impl.IsWithin(w, "O", "E", 3) || impl.IsWithin(w, "E", "O", 3) || textsText(impl.SmallTypes(4)) != smallText(4) {
			t.Error("calls at the same time return other results")
		}
	})
}

// FuzzHaving runs its seeds in each test run.
func FuzzHaving(f *testing.F) {
	for _, s := range []string{"E O;E i;E l(x):E x;O i|E O;E i|E|O", "E|E|E|E", "E O<E;E l(x):E l(p(x,x))|O|O|E", "||A|", "E;E x|E;E i|E|E", counting + "|" + counting + "|N|E"} {
		parts := strings.Split(s, "|")
		for n := -1; n <= 5; n++ {
			f.Add(parts[0], parts[1], parts[2], parts[3], n)
		}
	}
	f.Fuzz(func(t *testing.T, world, changed, class, other string, n int) {
		w, v := worldOf(world), worldOf(changed)
		small, ok := impl.SmallTypes(n)
		if valid := ok && impl.HasClass(w, class); !valid {
			checkHaving(t, w, having{class: class, n: n})
			checkChanged(t, w, v, class, n, "")
			return
		}
		types, _ := impl.TypesHaving(w, class, n)
		others, had := impl.TypesHaving(v, class, n)
		list, told := impl.ChangedBy(w, v, class, n)
		if told != had {
			t.Errorf("ChangedBy(%q, %q, %q, %d) = %q, %v", world, changed, class, n, list, told)
		}
		above, _ := impl.TypesHaving(w, other, n)
		within := impl.HasClass(w, other)
		for _, s := range small {
			has := slices.Contains(types, s)
			if told && slices.Contains(list, s) != (has != slices.Contains(others, s)) {
				t.Errorf("ChangedBy(%q, %q, %q, %d) = %q", world, changed, class, n, list)
			}
			within = within && (!has || slices.Contains(above, s))
		}
		if impl.IsWithin(w, class, other, n) != within {
			t.Errorf("IsWithin(%q, %q, %q, %d) = %v", world, class, other, n, !within)
		}
	})
}
