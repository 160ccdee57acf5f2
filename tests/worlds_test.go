package tests

import (
	"math/rand"
	"reflect"
	"regexp"
	"slices"
	"strings"
	"testing"

	"loop.example/instancesearch/impl"
)

// classesOf reads classes from a text such as "E O<E", "-" for none, valid or not.
func classesOf(text string) []impl.Class {
	var list []impl.Class
	if text == "-" {
		return list
	}
	for _, s := range strings.Split(text, " ") {
		name, supers, _ := strings.Cut(s, "<")
		list = append(list, impl.Class{Name: name, Supers: supers})
	}
	return list
}

func needOf(text string) impl.Need {
	class, t, _ := strings.Cut(text, " ")
	return impl.Need{Class: class, Type: t}
}

// instanceOf reads an instance from a text such as "E l(x):E x", valid or not.
func instanceOf(text string) impl.Instance {
	head, needs, found := strings.Cut(text, ":")
	i := impl.Instance{Need: needOf(head)}
	if found {
		for _, s := range strings.Split(needs, "&") {
			i.Needs = append(i.Needs, needOf(s))
		}
	}
	return i
}

// worldOf reads a world from a text such as "E O<E;E i", valid or not.
func worldOf(text string) impl.World {
	parts := strings.Split(text, ";")
	w := impl.World{Classes: classesOf(parts[0])}
	for _, s := range parts[1:] {
		w.Instances = append(w.Instances, instanceOf(s))
	}
	return w
}

func sameInstance(a, b impl.Instance) bool {
	return a.Need == b.Need && slices.Equal(a.Needs, b.Needs)
}

// sameWorld takes a nil slice and an empty one as the same.
func sameWorld(a, b impl.World) bool {
	return slices.Equal(a.Classes, b.Classes) && slices.EqualFunc(a.Instances, b.Instances, sameInstance)
}

// checkWorld holds all functions of a world against whether it is valid; text is its text then.
func checkWorld(t *testing.T, w impl.World, text string, valid bool) {
	t.Helper()
	if !valid {
		text = ""
	}
	if got := impl.WorldValid(w); got != valid {
		t.Errorf("WorldValid(%.300q) = %v", w, got)
	}
	if got := impl.FormatWorld(w); got != text {
		t.Errorf("FormatWorld(%.300q) = %q, want %q", w, got, text)
	}
	for _, c := range w.Classes[:min(len(w.Classes), 5)] {
		if got := impl.HasClass(w, c.Name); got != valid {
			t.Errorf("HasClass(%.300q, %q) = %v", w, c.Name, got)
		}
		if got := impl.SupersOf(w, c.Name); !valid && got != "" {
			t.Errorf("SupersOf(%.300q, %q) = %q", w, c.Name, got)
		}
	}
}

// checkParsed holds ParseWorld of a text against whether it is that of a world.
func checkParsed(t *testing.T, text string, valid bool) {
	t.Helper()
	var want impl.World
	if valid {
		want = worldOf(text)
	}
	if w, ok := impl.ParseWorld(text); ok != valid || !sameWorld(w, want) {
		t.Errorf("ParseWorld(%.300q) = %.300q, %v", text, w, ok)
	}
}

// head20 and head21 are types of 20 and 21 bytes with the variable x alone.
const (
	head20 = "p(l(l(x)),p(l(x),b))"
	head21 = "l(l(l(l(l(p(x,i))))))"
)

func TestLimitsOfWorlds(t *testing.T) {
	if impl.MaxClasses != 4 || impl.MaxInstances != 10 || impl.MaxNeeds != 3 || impl.MaxHead != 20 {
		t.Error("the limits of worlds are others")
	}
	if len(head20) != impl.MaxHead || len(head21) != impl.MaxHead+1 || !impl.TypeValid(head20) || !impl.TypeValid(head21) {
		t.Error("the long types of these tests have other lengths")
	}
}

func classesThatAreValid() []string {
	return []string{
		"A", "E", "T", "A T", "S T", "E O", "A B C D", "Q R S T", "A G M T",
		"E O<E", "E O<E S<E", "E O<E S<O", "E O<E S<EO", "E O S<EO", "A B<A C<AB D<ABC", "A B<A C<B D<C", "A B C D<ABC", "A B C D<AC", "A B<A C D<C", "A M<A S T<AMS",
	}
}

func classesThatAreNotValid() []string {
	return []string{
		"-", "A B C D E", "A B C D T<A",
		// Names.
		"Z", "U", "V", "@", "a", "e", "t", "1", "i", "x", "EO", "EE", "A B CD", "\x00", "\xff", "\xc3\x89", "A U", "@ A", "A V<A", "", " ", "A ", " A",
		// Their order.
		"O E", "E E", "A A", "A C B", "A B A", "B A C", "D C B A", "A B B", "A B C C", "A B B<A", "B A<B",
		// Classes above that stand later, the class itself, and some that are not there.
		"E<O O", "E<O O<E", "A<B B C D", "A B<C C", "A B<AC C", "A B C<D D", "E<E", "A A<A", "E O<O", "E O<EO", "A B<AB", "E O<A", "E O<T", "A B<A C<D", "A C<B",
		"A<@", "A B<1", "A B<a", "A B<\xff", "A B<\x00", "A B<A\xff", "A B C<A,B",
		// The order of classes above.
		"E O<EE", "A B C<BA", "A B C D<CBA", "A B C D<ACB", "A B C D<BCA", "A B C D<ABB", "A B C D<AAB", "A B C D<ABA",
		// More than one of these.
		"Z O<E", "E<O", "ABC DEF<A", "A\xff B<\xff",
	}
}

// instancesThatAreValid has instances of the classes E, O and S.
func instancesThatAreValid() []string {
	return []string{
		"E i", "O b", "S u", "E l(i)", "E l(x)", "E m(Z)", "E p(x,y)", "E p(x,x)", "E " + head20, "E p(p(X,Y),p(Z,z))",
		"O l(x):E x", "O l(x):O x", "E p(x,y):E x&E y", "E p(x,y):E y&E x", "E p(x,y):O y", "S p(X,p(Y,Z)):E X&O Z&S Y", "E p(p(X,Y),p(Z,z)):E p(p(z,Z),p(Y,X))",
		"E l(x):E x&O x&S x", "E l(x):E x&E x&E x", "E l(x):E i", "E i:O i", "E i:E i", "E i:O p(i,b)&S u&E l(i)",
		"S m(x):E m(x)", "S m(x):S m(x)", "E l(x):E l(l(x))", "E l(x):S m(p(x,l(x)))", "E l(x):E " + head20, "E " + head20 + ":E " + head20 + "&O " + head20 + "&S " + head20,
	}
}

func instancesThatAreNotValid() []string {
	return []string{
		// A variable.
		"E x", "E X", "E Z", "O z", "E y:E y", "S Y:E i",
		// No type.
		"E ", "E q", "E l", "E l(i", "E l(i))", "E p(i)", "E i(b)", "E  i", "E i ", "E \xff", "E l(x)x", "E l(x):E ", "E l(x):E q", "E l(x):E l(x", "E l(x):E x&E ", "E l(x):E x&E x&O (x)",
		// Too long.
		"E " + head21, "E " + head21 + ":E x", "E l(x):E " + head21, "E l(x):E x&E " + head21, "E l(x):E x&E x&E " + head21, "E " + twice(long28), "E i:E " + twice(long28), "E " + nested(20), "E i:E " + nested(20),
		// Other classes.
		"A i", "Z i", "e i", " i", "EO i", "T l(x):E x", "\xff i", "E l(x):A x", "E l(x):E x&Z x", "E l(x):E x&E x&T x", "E l(x): x", "E l(x):EO x",
		// Variables of needs that the instance does not have.
		"E i:E x", "E l(x):E y", "E l(x):E X", "E l(X):E x", "E l(i):E x", "E l(x):E x&E y", "E l(x):E x&E x&E Z", "E l(x):E p(x,y)", "E p(x,y):E z", "E p(x,y):E p(x,p(y,X))", "E p(X,y):E p(x,Y)", "E l(x):E l(l(l(y)))",
		// Too many needs.
		"E l(x):E x&E x&E x&E x", "E i:E i&E i&E i&E i", "E p(x,y):E x&O x&E y&O y", "E i:E i" + strings.Repeat("&E i", 1000),
		// More than one of these.
		"Z q", "Z x:Z y", "", "E", " ", " : ", " : & ", "E x:E y&E " + head21 + "&Z q&E x",
	}
}

const threeClasses = "E O<E S<EO"

func TestClassesOfWorlds(t *testing.T) {
	for _, s := range classesThatAreValid() {
		w := worldOf(s)
		checkWorld(t, w, s, true)
		checkParsed(t, s, true)
		for _, c := range w.Classes {
			if !impl.InstanceValid(w, instanceOf(c.Name+" i")) {
				t.Errorf("InstanceValid(%q, %s i) = false", s, c.Name)
			}
		}
		first := w.Classes[0].Name
		for _, name := range []string{"", "H", "U", "Z", "a", "i", "AB", first + " ", first + first, "\xff", "<", s + "!"} {
			if impl.HasClass(w, name) || impl.SupersOf(w, name) != "" || impl.InstanceValid(w, impl.Instance{Need: impl.Need{Class: name, Type: "i"}}) {
				t.Errorf("the world %q has the class %q", s, name)
			}
		}
	}
}

func TestClassesThatAreNotValid(t *testing.T) {
	for _, s := range classesThatAreNotValid() {
		for _, instances := range [][]impl.Instance{nil, {instanceOf("A i")}, {instanceOf("E i")}} {
			w := impl.World{Classes: classesOf(s), Instances: instances}
			checkWorld(t, w, "", false)
			for _, name := range []string{"A", "B", "C", "D", "E", "O", "T", "Z", "", "EO"} {
				if impl.HasClass(w, name) || impl.SupersOf(w, name) != "" || impl.InstanceValid(w, impl.Instance{Need: impl.Need{Class: name, Type: "i"}}) {
					t.Errorf("the world %q, which is not valid, has the class %q", s, name)
				}
			}
		}
		checkParsed(t, s, false)
		checkParsed(t, s+";A i", false)
	}
}

// TestWorldsThatLookValid has worlds that are not valid, but whose text would be that of another one if it were written down.
func TestWorldsThatLookValid(t *testing.T) {
	a := []impl.Class{{Name: "A"}}
	for _, w := range []impl.World{
		{Classes: []impl.Class{{Name: "A B"}}}, {Classes: []impl.Class{{Name: "A;A i"}}}, {Classes: []impl.Class{{Name: "A"}, {Name: "B<A"}}}, {Classes: []impl.Class{{Name: "A"}, {Name: "B", Supers: "A C<A"}}},
		{Classes: a, Instances: []impl.Instance{{Need: impl.Need{Class: "A", Type: "i;A b"}}}},
		{Classes: a, Instances: []impl.Instance{{Need: impl.Need{Class: "A", Type: "i:A b"}}}},
		{Classes: a, Instances: []impl.Instance{{Need: impl.Need{Class: "A i;A", Type: "b"}}}},
		{Classes: a, Instances: []impl.Instance{{Need: needOf("A i"), Needs: []impl.Need{{Class: "A", Type: "i&A b"}}}}},
	} {
		checkWorld(t, w, "", false)
		for _, i := range w.Instances {
			if impl.InstanceValid(w, i) {
				t.Errorf("InstanceValid(%q) = true", i)
			}
		}
	}
}

func TestZeroAndLargeWorlds(t *testing.T) {
	for _, w := range []impl.World{
		{}, {Classes: []impl.Class{}, Instances: []impl.Instance{}}, {Classes: make([]impl.Class, 1)}, {Classes: make([]impl.Class, 100000)},
		{Classes: classesOf("A"), Instances: make([]impl.Instance, 1)}, {Classes: classesOf("A"), Instances: make([]impl.Instance, 100000)}, {Instances: []impl.Instance{instanceOf("A i")}},
	} {
		checkWorld(t, w, "", false)
		if impl.HasClass(w, "") || impl.HasClass(w, "A") || impl.InstanceValid(w, impl.Instance{}) {
			t.Errorf("a world of %d classes and %d instances has a class or an instance", len(w.Classes), len(w.Instances))
		}
	}
}

func TestInstancesOfWorlds(t *testing.T) {
	for _, s := range instancesThatAreValid() {
		if !impl.InstanceValid(worldOf(threeClasses), instanceOf(s)) {
			t.Errorf("InstanceValid(%q) = false", s)
		}
		for _, text := range []string{threeClasses + ";" + s, threeClasses + ";E i;" + s, threeClasses + ";" + s + ";E i;" + s} {
			checkWorld(t, worldOf(text), text, true)
			checkParsed(t, text, true)
			if !impl.InstanceValid(worldOf(text), instanceOf(s)) {
				t.Errorf("InstanceValid(%q, %q) = false", text, s)
			}
		}
	}
}

func TestInstancesThatAreNotValid(t *testing.T) {
	for _, s := range instancesThatAreNotValid() {
		if impl.InstanceValid(worldOf(threeClasses), instanceOf(s)) || impl.InstanceValid(worldOf(threeClasses+";E i"), instanceOf(s)) {
			t.Errorf("InstanceValid(%q) = true", s)
		}
		for _, text := range []string{threeClasses + ";" + s, threeClasses + ";E i;" + s, threeClasses + ";" + s + ";E i"} {
			w := worldOf(text)
			checkWorld(t, w, "", false)
			checkParsed(t, text, false)
			if !impl.InstanceValid(w, instanceOf("E l(x):O x")) || impl.InstanceValid(w, instanceOf(s)) {
				t.Errorf("InstanceValid looks at the instances of %.300q", text)
			}
		}
	}
}

func TestMostInstances(t *testing.T) {
	for count := range 14 {
		text := "E" + strings.Repeat(";E l(x):E x", count)
		checkWorld(t, worldOf(text), text, count <= 10)
		checkParsed(t, text, count <= 10)
		if !impl.InstanceValid(worldOf(text), instanceOf("E b")) {
			t.Errorf("InstanceValid in a world with %d instances = false", count)
		}
	}
}

func TestFormatNeedAndFormatInstance(t *testing.T) {
	for _, n := range []impl.Need{{}, {Class: "E", Type: "i"}, {Class: "EO", Type: " q "}, {Class: "\xff"}, {Type: "&"}, {Class: "E:", Type: head21}} {
		if got := impl.FormatNeed(n); got != n.Class+" "+n.Type {
			t.Errorf("FormatNeed(%q) = %q", n, got)
		}
	}
	for _, s := range append(instancesThatAreValid(), instancesThatAreNotValid()...) {
		if got := impl.FormatInstance(instanceOf(s)); strings.Contains(s, " ") && got != s {
			t.Errorf("FormatInstance(%q) = %q", s, got)
		}
	}
	for _, c := range []struct {
		i    impl.Instance
		want string
	}{
		{impl.Instance{}, " "},
		{impl.Instance{Needs: []impl.Need{}}, " "},
		{impl.Instance{Needs: make([]impl.Need, 1)}, " : "},
		{impl.Instance{Needs: make([]impl.Need, 4)}, " : & & & "},
		{impl.Instance{Need: impl.Need{Class: "Z", Type: "q:"}, Needs: []impl.Need{{Class: "\xff", Type: ";"}}}, "Z q::\xff ;"},
	} {
		if got := impl.FormatInstance(c.i); got != c.want {
			t.Errorf("FormatInstance(%q) = %q, want %q", c.i, got, c.want)
		}
	}
}

// checkNeedText holds ParseNeed of a text against whether it is that of a need.
func checkNeedText(t *testing.T, s string, valid bool) {
	t.Helper()
	var want impl.Need
	if valid {
		want = needOf(s)
	}
	if n, ok := impl.ParseNeed(s); ok != valid || n != want || valid && impl.FormatNeed(n) != s {
		t.Errorf("ParseNeed(%.300q) = %.300q, %v", s, n, ok)
	}
}

func TestParseNeed(t *testing.T) {
	for _, s := range []string{"E i", "A x", "T Z", "O l(p(x,Y))", "E " + head21, "E " + twice(long28), "S " + nested(19)} {
		checkNeedText(t, s, true)
	}
	for _, s := range []string{
		"", " ", "E", "E ", "i", " i", "E  i", "E i ", " E i", "e i", "U i", "Z i", "EE i", "EO i", "Ei", "E\ti", "E\ni", "E i\n", "E q", "E l", "E l(i", "E l(i))", "E l( i)", "E p(i,b", "E p(i)",
		"E i&E i", "E i&", "E i:", "E i:E i", "E i;", "E i;E i", "E;E i", "E:E i", "&E i", "E i E i", "E i i", "E " + nested(20), "E l(" + twice(long28) + ")", "E " + strings.Repeat("l(", 100000), strings.Repeat("E ", 100000),
	} {
		checkNeedText(t, s, false)
	}
}

func TestParseNeedOfAllBytes(t *testing.T) {
	for b := range 256 {
		c := string([]byte{byte(b)})
		checkNeedText(t, c+" i", 'A' <= b && b <= 'T')
		checkNeedText(t, c+" l(x)", 'A' <= b && b <= 'T')
		checkNeedText(t, "E"+c+"i", b == ' ')
		checkNeedText(t, "E "+c, strings.IndexByte("ibuxyzXYZ", byte(b)) >= 0)
		for _, s := range []string{c + "E i", "E" + c + " i", "E " + c + "i", "E i" + c, "E l(i)" + c} {
			checkNeedText(t, s, false)
		}
	}
}

// checkInstanceText holds ParseInstance of a text against whether it is that of an instance.
func checkInstanceText(t *testing.T, s string, valid bool) {
	t.Helper()
	var want impl.Instance
	if valid {
		want = instanceOf(s)
	}
	if i, ok := impl.ParseInstance(s); ok != valid || !sameInstance(i, want) || valid && impl.FormatInstance(i) != s {
		t.Errorf("ParseInstance(%.300q) = %.300q, %v", s, i, ok)
	}
}

func TestParseInstance(t *testing.T) {
	// Instances of no world, and needs of any number, are read as well.
	for _, s := range append(instancesThatAreValid(),
		"A i", "E x", "T Z:A Z", "O l(x):E x&O y", "E i:E x", "E i:B l(Y)&C u", "E "+head21+":E "+head21, "E "+twice(long28), "E i:E "+twice(long28)+"&O "+nested(19),
		"E i:E i&E i&E i&E i", "E l(x):E x"+strings.Repeat("&O x", 5000),
	) {
		checkInstanceText(t, s, true)
	}
	for _, s := range []string{
		"", " ", ":", "&", ";", "E", "E ", "i", "E  i", " E i", "E i ", "Z i", "e i", "EO i", "E q", "E " + nested(20), "E i:E " + nested(20),
		"E i:", "E i: ", "E i:i", "E i:E", "E i:E ", "E i: E i", "E i :E i", "E i:Z i", "E i:E q", "E i:E i:", "E i:E i:E i", "E i::E i", "E:E i", ":E i", "E i:E i ",
		"E i:E i&", "E i:&E i", "E i:&", "E i:E i&&E i", "E i:E i& E i", "E i:E i &E i", "E i:E i&E", "E i:E i&q", "E i:E i&E q", "E i:E i&E i:E i",
		"E i&E i", "E i&", "E i;", "E i;E i", "E i:E i;", "E i:E i;E i", "E;E i", "E i,E i", "E i:E i,E i", "E i:E i E i", "E i\n", "E i:E i\n", "E i:\xff", "\xffE i",
		strings.Repeat("E i:", 20000), "E i:" + strings.Repeat("&", 100000), strings.Repeat("E i:E i;", 20000),
	} {
		checkInstanceText(t, s, false)
	}
}

const fourClasses = "A B<A C<AB D<ABC"

// worldTexts ends with a world of as many classes, instances and needs as there may be.
func worldTexts() []string {
	return []string{
		"E", "A B C D", "E O<E", "E;E i", "E O<E;E i;E l(x):E x;O i", "E O<E S<EO;E i;E l(x):E x;E p(x,y):E x&E y;O i", "T;T p(X,p(Y,Z)):T X&T Y&T Z",
		fourClasses + strings.Repeat(";D p(p(X,Y),p(Z,z)):A l(p(X,p(Y,Z)))&B p(l(l(l(z))),l(X))&C z", 10),
	}
}

func textsThatAreNoWorlds() []string {
	return []string{
		"", " ", ";", "<", "-", ":", "&", "E;", "E ;", "E; ", "E;;", "E;;E i", "E;E i;", ";E i", " E", "E ", "E  O", "E O ", "E;-", "E:O", "E;O", "E;i", "E;E", "EO;E i", "E i", "E;E i E b", "E E i",
		"E\nO", "E\tO", "E,O", "E&O", "E\n", "E;E i\n", "E;\nE i", "E; E i", "E ;E i", "E;E i ;E b", "E;E i; E b", "E\x00", "\xff;E i",
		"E<", "E<;E i", "E< ", "E O<", "E O<;E i", "E O< ", "E O<E<", "E O<E<E", "E <O", "E O <E", "E O< E", "E O<E,S", "A B C<A B", "A B C<AB<", "E<<", "E O<<E", "<E", "E O<E S<E O", "E<-", "E O<-", "E< O", "E< O<E",
		"E;E i&E i", "E;E i:", "E;E i:E i&", "E;E i:E i:E i", "E;E i::E i", "E;E i:;E i", "E;E i&;E i", "E;:E i", "E;&", "E:E i", "E&E i", "E<E i", "E;E<E i", "E;E i<E", "E;E i:E i&E i;",
		fourClasses + strings.Repeat(";A i", 11), strings.Repeat("A ", 50000), strings.Repeat("A;", 50000), "A" + strings.Repeat(";A i", 50000), "A<" + strings.Repeat("A", 100000),
	}
}

func TestParseWorld(t *testing.T) {
	for _, s := range worldTexts() {
		checkWorld(t, worldOf(s), s, true)
		checkParsed(t, s, true)
	}
	for _, s := range textsThatAreNoWorlds() {
		checkParsed(t, s, false)
	}
}

// reached returns the classes above one as far as paths upwards go, in the order of their letters.
func reached(list []impl.Class, name string) string {
	above := map[string]bool{}
	var climb func(name string)
	climb = func(name string) {
		for _, c := range list {
			if c.Name == name && c.Supers != "" {
				for _, s := range strings.Split(c.Supers, "") {
					above[s] = true
					climb(s)
				}
			}
		}
	}
	climb(name)
	letters := ""
	for _, c := range list {
		if above[c.Name] {
			letters += c.Name
		}
	}
	return letters
}

// subsets returns all texts that have some of the letters, in their order.
func subsets(letters string) []string {
	if letters == "" {
		return []string{""}
	}
	last := len(letters) - 1
	var list []string
	for _, s := range subsets(letters[:last]) {
		list = append(list, s, s+letters[last:])
	}
	return list
}

func TestSupersOfAllWorldsOfFourClasses(t *testing.T) {
	count := 0
	for _, g := range subsets("B") {
		for _, m := range subsets("BG") {
			for _, s := range subsets("BGM") {
				w := impl.World{Classes: []impl.Class{{Name: "B"}, {Name: "G", Supers: g}, {Name: "M", Supers: m}, {Name: "S", Supers: s}}}
				for _, c := range w.Classes {
					if got, want := impl.SupersOf(w, c.Name), reached(w.Classes, c.Name); got != want {
						t.Errorf("SupersOf(%q, %q) = %q, want %q", w, c.Name, got, want)
					}
				}
				count++
			}
		}
	}
	if count != 64 {
		t.Errorf("there are %d worlds", count)
	}
}

func TestSupersOf(t *testing.T) {
	for _, c := range []struct{ world, class, want string }{
		{"A B<A C<B D<C", "D", "ABC"}, {"A B<A C<B D<C", "C", "AB"}, {"A B<A C<B D<C", "B", "A"}, {"A B<A C<B D<C", "A", ""}, {"A B<A C<B D<C", "E", ""}, {"A B<A C<B D<C", "", ""}, {"A B<A C<B D<C", "DC", ""},
		{"A B<A C<A D<BC", "D", "ABC"}, {"A B C<A D<BC", "D", "ABC"}, {"A B C<A D<B", "D", "B"}, {"A B C<A D<AC", "D", "AC"}, {"A B C D", "D", ""}, {"E O<E S<EO;O i;S i", "S", "EO"}, {"E O<E", "O", "E"}, {"E", "E", ""},
		{"E O<E;E x", "O", ""}, {"E O<E;O q", "O", ""}, {"O E<O", "E", ""}, {"E O<EE", "O", ""},
	} {
		if got := impl.SupersOf(worldOf(c.world), c.class); got != c.want {
			t.Errorf("SupersOf(%q, %q) = %q, want %q", c.world, c.class, got, c.want)
		}
	}
}

// needShape has no look at whether there is such a type.
const needShape = `[A-T] [^ :&;]+`

var (
	anyNeed       = regexp.MustCompile(needShape)
	instanceShape = regexp.MustCompile(`^` + needShape + `(:` + needShape + `(&` + needShape + `)*)?$`)
	worldShape    = regexp.MustCompile(`^[A-T](<[A-T]+)?( [A-T](<[A-T]+)?){0,3}(;` + needShape + `(:` + needShape + `(&` + needShape + `){0,2})?){0,10}$`)
)

func instanceByShape(s string) bool {
	for _, n := range anyNeed.FindAllString(s, -1) {
		if !impl.TypeValid(n[2:]) {
			return false
		}
	}
	return instanceShape.MatchString(s)
}

// classesByShape returns the names of classes, false if names or classes above do not ascend or do not stand before.
func classesByShape(s string) (string, bool) {
	names := ""
	for _, c := range strings.Split(s, " ") {
		if names != "" && c[:1] <= names[len(names)-1:] {
			return "", false
		}
		for k := 2; k < len(c); k++ {
			if !strings.Contains(names, c[k:k+1]) || k > 2 && c[k-1] >= c[k] {
				return "", false
			}
		}
		names += c[:1]
	}
	return names, true
}

// worldByShape tells whether a text is that of a world by its shape and what the shape cannot tell.
func worldByShape(s string) bool {
	if !worldShape.MatchString(s) {
		return false
	}
	parts := strings.Split(s, ";")
	names, ok := classesByShape(parts[0])
	for _, i := range parts[1:] {
		needs := anyNeed.FindAllString(i, -1)
		for _, n := range needs {
			ok = ok && strings.Contains(names, n[:1]) && impl.TypeValid(n[2:]) && len(n) <= 22
			for _, v := range strings.Split(variables, "") {
				ok = ok && (!strings.Contains(n, v) || strings.Contains(needs[0], v))
			}
		}
		ok = ok && !strings.Contains(variables, needs[0][2:])
	}
	return ok
}

func checkText(t *testing.T, s string) {
	t.Helper()
	checkNeedText(t, s, instanceByShape(s) && !strings.Contains(s, ":"))
	checkInstanceText(t, s, instanceByShape(s))
	checkParsed(t, s, worldByShape(s))
}

func TestAllShortTextsOfWorlds(t *testing.T) {
	for letters, length := range map[string]int{"AB< ;i": 6, "A i&:": 7, "A ;i": 8, "AZix :": 5} {
		var try func(s string, left int)
		try = func(s string, left int) {
			checkText(t, s)
			if left == 0 || t.Failed() {
				return
			}
			for _, c := range letters {
				try(s+string(c), left-1)
			}
		}
		try("", length)
	}
}

// changed returns a text with a few small changes.
func changed(r *rand.Rand, s string) string {
	letters := "ABCDEOSTZ<  ;;:&ibxyzXlp(),"
	for range r.Intn(3) {
		from := r.Intn(len(s) + 1)
		to := min(len(s), from+r.Intn(2))
		letter := letters[r.Intn(len(letters)):][:1]
		if r.Intn(3) == 0 {
			letter = ""
		}
		s = s[:from] + letter + s[to:]
	}
	return s
}

func TestChangedTextsOfWorlds(t *testing.T) {
	r := rand.New(rand.NewSource(3))
	var seeds []string
	seeds = append(append(seeds, worldTexts()...), instancesThatAreValid()...)
	for _, s := range classesThatAreValid() {
		seeds = append(seeds, s+";A i", s+";E l(x):E x&O i")
	}
	for _, s := range instancesThatAreValid() {
		seeds = append(seeds, threeClasses+";"+s, "E O<E;"+s)
	}
	for range 1000 {
		for _, s := range seeds {
			checkText(t, changed(r, s))
		}
	}
}

// TestChangedWorlds holds worlds that are not read from a text against their text.
func TestChangedWorlds(t *testing.T) {
	r := rand.New(rand.NewSource(4))
	for range 30000 {
		w := worldOf(changed(r, threeClasses+";"+instancesThatAreValid()[r.Intn(len(instancesThatAreValid()))]))
		var classes []string
		for _, c := range w.Classes {
			classes = append(classes, strings.TrimSuffix(c.Name+"<"+c.Supers, "<"))
		}
		text := strings.Join(classes, " ")
		for _, i := range w.Instances {
			text += ";" + impl.FormatInstance(i)
		}
		if !sameWorld(w, worldOf(text)) {
			continue
		}
		checkWorld(t, w, text, worldByShape(text))
	}
}

func TestPartsOfWorldsAreNewMemory(t *testing.T) {
	text := threeClasses + ";E l(x):E x&O x;O i:E i&E i;S i"
	first, _ := impl.ParseWorld(text)
	second, _ := impl.ParseWorld(text)
	for k := range first.Instances {
		needs := first.Instances[k].Needs
		for n := range needs[:cap(needs)] {
			needs[:cap(needs)][n] = needOf("Z q")
		}
		for other := k + 1; other < len(first.Instances); other++ {
			if !slices.Equal(first.Instances[other].Needs, second.Instances[other].Needs) {
				t.Errorf("the needs of the instances %d and %d share memory", k, other)
			}
		}
	}
	clear(first.Classes[:cap(first.Classes)])
	clear(first.Instances[:cap(first.Instances)])
	if !sameWorld(second, worldOf(text)) || impl.FormatWorld(second) != text {
		t.Errorf("results of ParseWorld share memory: %q", second)
	}
	i, _ := impl.ParseInstance("E i:E i&E i")
	other, _ := impl.ParseInstance("E i:E i&E i")
	clear(i.Needs[:cap(i.Needs)])
	if !sameInstance(other, instanceOf("E i:E i&E i")) {
		t.Errorf("results of ParseInstance share memory: %q", other)
	}
}

// withRoom returns a copy with memory behind each slice that is not to be changed.
func withRoom(w impl.World) impl.World {
	classes := append(slices.Clone(w.Classes), impl.Class{Name: "kept"})
	instances := append(slices.Clone(w.Instances), instanceOf("kept kept"))
	for k, i := range instances {
		needs := append(slices.Clone(i.Needs), needOf("kept kept"))
		instances[k].Needs = needs[:len(i.Needs)]
	}
	return impl.World{Classes: classes[:len(w.Classes)], Instances: instances[:len(w.Instances)]}
}

// behind returns a world with the memory behind each slice in it.
func behind(w impl.World) impl.World {
	all := impl.World{Classes: w.Classes[:len(w.Classes)+1], Instances: slices.Clone(w.Instances[:len(w.Instances)+1])}
	for k, i := range all.Instances {
		all.Instances[k].Needs = i.Needs[:len(i.Needs)+1]
	}
	return all
}

func TestWorldsAreLeftAsTheyAre(t *testing.T) {
	for _, s := range append(worldTexts(), "O E", "E;E x", "E O<E;E l(x):E y", "A B C D E;A i") {
		w, same := withRoom(worldOf(s)), withRoom(worldOf(s))
		impl.WorldValid(w)
		impl.FormatWorld(w)
		impl.HasClass(w, "E")
		impl.SupersOf(w, "O")
		for _, i := range w.Instances {
			impl.InstanceValid(w, i)
			impl.FormatInstance(i)
			impl.FormatNeed(i.Need)
		}
		if !reflect.DeepEqual(behind(w), behind(same)) {
			t.Errorf("the world %q became %q", s, w)
		}
	}
}

// FuzzTextsOfWorlds runs its seeds in each test run.
func FuzzTextsOfWorlds(f *testing.F) {
	for _, s := range slices.Concat(worldTexts(), textsThatAreNoWorlds(), instancesThatAreValid(), instancesThatAreNotValid(), classesThatAreNotValid()) {
		f.Add(s)
	}
	for b := range 256 {
		c := string([]byte{byte(b)})
		for _, s := range []string{c, "A" + c + "B", "A B" + c + "A", "A;" + c + " i", "A;A" + c + "i", "A;A i" + c + "A i", "A;A i:A i" + c + "A i", "A;A i" + c} {
			f.Add(s)
		}
	}
	f.Fuzz(func(t *testing.T, s string) {
		checkText(t, s)
		if w, ok := impl.ParseWorld(s); ok {
			checkWorld(t, w, s, true)
		}
	})
}
