package tests

import (
	"maps"
	"math/rand"
	"slices"
	"strings"
	"testing"

	"loop.example/instancesearch/impl"
)

// bindingsOf reads bindings from a text such as "x=i y=l(x)", "-" for none, valid or not.
func bindingsOf(text string) []impl.Binding {
	var list []impl.Binding
	if text == "-" {
		return list
	}
	for _, s := range strings.Split(text, " ") {
		v, t, _ := strings.Cut(s, "=")
		list = append(list, impl.Binding{Var: v, Type: t})
	}
	return list
}

// checkBindings compares what MatchType or UnifyTypes returns with a text, the empty one if there are none.
func checkBindings(t *testing.T, call string, list []impl.Binding, ok bool, want string) {
	t.Helper()
	if want == "" && (ok || len(list) != 0) {
		t.Errorf("%s = %q, %v, want none", call, list, ok)
	}
	if want != "" && (!ok || !slices.Equal(list, bindingsOf(want))) {
		t.Errorf("%s = %q, %v, want %q", call, list, ok, want)
	}
}

// twice returns the type p of one type twice.
func twice(s string) string { return "p(" + s + "," + s + ")" }

// long26 and long28 are types of 26 and 28 bytes.
const (
	long26 = "l(l(l(l(l(p(p(i,b),b))))))"
	long28 = "l(l(l(l(l(l(l(l(l(i)))))))))"
)

func TestLengthsOfLongTypes(t *testing.T) {
	if len(long26) != 26 || len(long28) != 28 || !impl.TypeValid(long26) || !impl.TypeValid(long28) || len(twice(long28)) != impl.MaxType {
		t.Error("the long types of these tests have other lengths")
	}
}

func validBindings() []string {
	return []string{
		"-", "x=i", "x=x", "Z=Z", "x=l(x)", "X=x", "x=X", "X=i x=i", "X=i Y=b Z=u", "x=i y=b z=u", "Z=i x=b", "Y=i y=b", "X=p(x,y) z=m(Z)",
		"X=x Y=y Z=z x=X y=Y z=Z", "x=" + twice(long28),
	}
}

func bindingsThatAreNotValid() []string {
	return []string{
		"x=i x=i", "x=i x=b", "X=i X=i", "X=i x=i X=i", "x=i X=i", "x=i Z=i", "X=i Z=i Y=i", "z=i y=i", "y=i z=i x=i", "X=x Y=y Z=z x=X y=Y z=Z z=i",
		"=i", "i=i", "l=i", "p=i", "w=i", "W=i", "xx=i", "xy=i", "l(x)=i", "(=i", "1=i", "\x00=i", "\xff=i", "R=i", "r=i", "X=i \xff=i", "x=i w=i",
		"x=", "x=q", "x=l", "x=l(i", "x=l(i))", "x=p(i)", "x=R", "x=r", "x=\xff", "x=" + nested(20), "x=l(" + twice(long28) + ")", "X=q x=i", "X=i x=q",
		"=", "= =",
	}
}

func TestBindingsValid(t *testing.T) {
	for _, s := range validBindings() {
		if !impl.BindingsValid(bindingsOf(s)) {
			t.Errorf("BindingsValid(%q) = false", s)
		}
	}
	for _, s := range bindingsThatAreNotValid() {
		if impl.BindingsValid(bindingsOf(s)) {
			t.Errorf("BindingsValid(%q) = true", s)
		}
	}
	for _, b := range []impl.Binding{{Var: "x ", Type: "i"}, {Var: " x", Type: "i"}, {Var: "x", Type: "i "}, {Var: "x", Type: " i"}} {
		if impl.BindingsValid([]impl.Binding{b}) {
			t.Errorf("BindingsValid(%q) = true", b)
		}
	}
	if !impl.BindingsValid([]impl.Binding{}) {
		t.Error("BindingsValid of an empty slice = false")
	}
	if impl.BindingsValid(make([]impl.Binding, 100000)) {
		t.Error("BindingsValid of many zero values = true")
	}
}

func TestFormatBindings(t *testing.T) {
	for _, s := range append(validBindings(), bindingsThatAreNotValid()...) {
		if got := impl.FormatBindings(bindingsOf(s)); got != s {
			t.Errorf("FormatBindings of %q = %q", s, got)
		}
	}
	if got := impl.FormatBindings([]impl.Binding{}); got != "-" {
		t.Errorf("FormatBindings of an empty slice = %q", got)
	}
	if got := impl.FormatBindings([]impl.Binding{{Var: "a b", Type: "\xff"}, {}, {Var: "-", Type: "="}}); got != "a b=\xff = -==" {
		t.Errorf("FormatBindings = %q", got)
	}
}

func TestApplyBindings(t *testing.T) {
	for _, c := range []struct{ list, t, want string }{
		{"-", "i", "i"}, {"-", "x", "x"}, {"-", "p(x,l(Y))", "p(x,l(Y))"},
		{"x=i", "x", "i"}, {"x=i", "y", "y"}, {"x=i", "X", "X"}, {"X=i", "x", "x"}, {"x=i", "b", "b"}, {"y=i", "p(x,z)", "p(x,z)"},
		{"x=i", "p(x,p(y,x))", "p(i,p(y,i))"}, {"Y=p(i,b) z=u", "p(l(Y),m(z))", "p(l(p(i,b)),m(u))"},
		// A variable that stands for itself, or stands within what it stands for.
		{"x=x", "p(x,l(x))", "p(x,l(x))"}, {"x=l(x)", "x", "l(x)"}, {"x=l(x)", "p(x,x)", "p(l(x),l(x))"}, {"x=p(x,x)", "l(p(x,y))", "l(p(p(x,x),y))"},
		// All at once and once only.
		{"x=y y=x", "p(x,y)", "p(y,x)"}, {"x=y y=z z=x", "p(x,p(y,z))", "p(y,p(z,x))"}, {"x=y y=z z=i", "x", "y"}, {"X=x x=i", "p(X,x)", "p(x,i)"},
		{"X=l(y) x=l(X) y=b", "p(X,p(x,y))", "p(l(y),p(l(X),b))"}, {"X=x Y=y Z=z x=X y=Y z=Z", "p(X,p(Y,p(Z,p(x,p(y,z)))))", "p(x,p(y,p(z,p(X,p(Y,Z)))))"},
	} {
		if got, ok := impl.ApplyBindings(bindingsOf(c.list), c.t); got != c.want || !ok {
			t.Errorf("ApplyBindings(%q, %q) = %q, %v, want %q", c.list, c.t, got, ok, c.want)
		}
	}
}

func TestApplyBindingsThatAreNotValid(t *testing.T) {
	for _, s := range bindingsThatAreNotValid() {
		for _, to := range []string{"i", "x", "p(x,X)"} {
			if got, ok := impl.ApplyBindings(bindingsOf(s), to); got != "" || ok {
				t.Errorf("ApplyBindings(%q, %q) = %q, %v", s, to, got, ok)
			}
		}
	}
	for _, s := range textsThatAreNoTypes() {
		for _, list := range []string{"-", "x=i", "x=q"} {
			if got, ok := impl.ApplyBindings(bindingsOf(list), s); got != "" || ok {
				t.Errorf("ApplyBindings(%q, %q) = %q, %v", list, s, got, ok)
			}
		}
	}
}

func TestLongestTypesOfApplyBindings(t *testing.T) {
	for _, c := range []struct {
		list, t string
		length  int
	}{
		{"x=" + long28, "p(x,x)", 60}, {"x=" + long26, "p(x,p(x,i))", 61}, {"x=" + long28, "p(x,l(x))", 63}, {"x=" + twice(long28), "x", 60}, {"x=" + twice(long28), "l(x)", 63},
		{"x=" + twice(long28), "p(x,p(x,p(x,p(x,p(x,p(x,p(x,p(x,p(x,p(x,p(x,x)))))))))))", 764},
	} {
		want := strings.ReplaceAll(c.t, "x", c.list[2:])
		if len(want) != c.length {
			t.Fatalf("%q in %q has %d bytes", c.list, c.t, len(want))
		}
		got, ok := impl.ApplyBindings(bindingsOf(c.list), c.t)
		if ok != (c.length <= 60) || ok && got != want || !ok && got != "" {
			t.Errorf("ApplyBindings(%q, %q) = %q, %v", c.list, c.t, got, ok)
		}
	}
	// A binding that is not needed may have any length of a type.
	if got, ok := impl.ApplyBindings(bindingsOf("x="+twice(long28)), twice("y")); got != "p(y,y)" || !ok {
		t.Errorf("ApplyBindings without the variable = %q, %v", got, ok)
	}
}

func TestMatchType(t *testing.T) {
	for _, c := range []struct{ pattern, t, want string }{
		{"i", "i", "-"}, {"l(i)", "l(i)", "-"}, {"p(i,b)", "p(i,b)", "-"},
		{"x", "i", "x=i"}, {"Z", "p(i,b)", "Z=p(i,b)"}, {"p(x,y)", "p(i,l(b))", "x=i y=l(b)"}, {"p(y,x)", "p(i,b)", "x=b y=i"},
		{"p(x,X)", "p(i,b)", "X=b x=i"}, {"p(z,p(y,p(x,p(Z,p(Y,X)))))", "p(i,p(b,p(u,p(x,p(y,z)))))", "X=z Y=y Z=x x=u y=b z=i"},
		{"p(x,x)", "p(i,i)", "x=i"}, {"p(x,x)", "p(l(y),l(y))", "x=l(y)"}, {"p(l(x),x)", "p(l(m(b)),m(b))", "x=m(b)"},
		{"p(x,p(y,x))", "p(p(i,b),p(u,p(i,b)))", "x=p(i,b) y=u"},
		{"x", twice(long28), "x=" + twice(long28)}, {"p(x,x)", twice(long28), "x=" + long28}, {twice(long28), twice(long28), "-"},
		// Variables that stand for themselves, within what they stand for, and for each other.
		{"x", "x", "x=x"}, {"p(x,y)", "p(x,y)", "x=x y=y"}, {"x", "l(x)", "x=l(x)"}, {"p(x,x)", "p(l(x),l(x))", "x=l(x)"},
		{"p(x,y)", "p(y,x)", "x=y y=x"}, {"p(x,y)", "p(y,i)", "x=y y=i"}, {"p(x,y)", "p(l(y),l(x))", "x=l(y) y=l(x)"}, {"x", "X", "x=X"},
		// None.
		{"i", "b", ""}, {"i", "x", ""}, {"x", "", ""}, {"l(x)", "x", ""}, {"l(x)", "m(x)", ""}, {"l(x)", "p(x,x)", ""}, {"l(i)", "i", ""}, {"i", "l(i)", ""}, {"l(i)", "l(x)", ""},
		{"p(x,x)", "p(i,b)", ""}, {"p(x,x)", "p(x,y)", ""}, {"p(x,x)", "p(x,i)", ""}, {"p(x,x)", "p(i,x)", ""}, {"p(x,x)", "p(x,l(x))", ""}, {"p(x,l(x))", "p(x,x)", ""},
		{"p(x,i)", "p(i,x)", ""}, {"p(x,p(y,x))", "p(i,p(i,y))", ""},
	} {
		list, ok := impl.MatchType(c.pattern, c.t)
		checkBindings(t, "MatchType("+c.pattern+" "+c.t+")", list, ok, c.want)
		if got := impl.IsInstance(c.pattern, c.t); got != (c.want != "") {
			t.Errorf("IsInstance(%q, %q) = %v", c.pattern, c.t, got)
		}
	}
}

func TestUnifyTypes(t *testing.T) {
	for _, c := range []struct{ a, b, want, meet string }{
		{"i", "i", "-", "i"}, {"x", "x", "-", "x"}, {"p(x,l(Y))", "p(x,l(Y))", "-", "p(x,l(Y))"},
		{"x", "i", "x=i", "i"}, {"i", "x", "x=i", "i"}, {"l(x)", "l(m(b))", "x=m(b)", "l(m(b))"}, {"p(x,l(y))", "p(l(y),z)", "x=l(y) z=l(y)", "p(l(y),l(y))"},
		{"p(x,i)", "p(b,y)", "x=b y=i", "p(b,i)"}, {"p(x,x)", "p(i,i)", "x=i", "p(i,i)"},
		// Of two variables the first one in the order of bindings is bound.
		{"x", "y", "x=y", "y"}, {"y", "x", "x=y", "y"}, {"x", "z", "x=z", "z"}, {"X", "x", "X=x", "x"}, {"x", "X", "X=x", "x"}, {"Z", "x", "Z=x", "x"}, {"x", "Z", "Z=x", "x"},
		{"Y", "X", "X=Y", "Y"}, {"z", "X", "X=z", "z"}, {"p(x,y)", "p(y,x)", "x=y", "p(y,y)"},
		// Chains of variables.
		{"p(x,y)", "p(y,z)", "x=z y=z", "p(z,z)"}, {"p(x,y)", "p(z,x)", "x=z y=z", "p(z,z)"}, {"p(x,x)", "p(y,z)", "x=z y=z", "p(z,z)"}, {"p(x,y)", "p(y,i)", "x=i y=i", "p(i,i)"},
		{"p(x,p(y,z))", "p(y,p(z,i))", "x=i y=i z=i", "p(i,p(i,i))"}, {"p(z,p(y,x))", "p(i,p(z,y))", "x=i y=i z=i", "p(i,p(i,i))"},
		{"p(x,p(y,z))", "p(l(y),p(l(z),i))", "x=l(l(i)) y=l(i) z=i", "p(l(l(i)),p(l(i),i))"}, {"p(x,p(y,x))", "p(y,p(l(z),l(i)))", "x=l(i) y=l(i) z=i", "p(l(i),p(l(i),l(i)))"},
		{"p(X,p(Y,p(Z,p(x,y))))", "p(Y,p(Z,p(x,p(y,z))))", "X=z Y=z Z=z x=z y=z", "p(z,p(z,p(z,p(z,z))))"},
		{"p(X,p(X,p(X,p(X,p(X,X)))))", "p(z,p(y,p(x,p(Z,p(Y,X)))))", "X=z Y=z Z=z x=z y=z", "p(z,p(z,p(z,p(z,p(z,z)))))"},
		{"p(x,p(y,x))", "p(l(y),p(z,l(z)))", "x=l(z) y=z", "p(l(z),p(z,l(z)))"},
		// Variables that come to stand for themselves.
		{"p(x,p(y,x))", "p(y,p(x,x))", "x=y", "p(y,p(y,y))"}, {"p(x,p(y,p(z,x)))", "p(y,p(z,p(x,i)))", "x=i y=i z=i", "p(i,p(i,p(i,i)))"}, {"p(x,x)", "p(l(x),l(x))", "", ""},
		// Variables within what they would stand for.
		{"x", "l(x)", "", ""}, {"l(x)", "x", "", ""}, {"x", "p(i,m(x))", "", ""}, {"p(x,y)", "p(l(y),l(x))", "", ""}, {"p(x,y)", "p(y,l(x))", "", ""}, {"p(x,x)", "p(y,l(y))", "", ""},
		{"p(x,p(y,z))", "p(l(y),p(l(z),l(x)))", "", ""}, {"p(x,p(y,z))", "p(y,p(z,m(x)))", "", ""}, {"p(l(x),X)", "p(X,x)", "", ""},
		// Letters that differ.
		{"i", "b", "", ""}, {"i", "l(i)", "", ""}, {"l(x)", "m(x)", "", ""}, {"l(x)", "p(x,y)", "", ""}, {"p(x,x)", "p(i,b)", "", ""}, {"p(x,p(y,x))", "p(y,p(i,b))", "", ""}, {"l(l(x))", "l(m(y))", "", ""},
	} {
		list, ok := impl.UnifyTypes(c.a, c.b)
		checkBindings(t, "UnifyTypes("+c.a+" "+c.b+")", list, ok, c.want)
		if meet, ok := impl.MeetOf(c.a, c.b); meet != c.meet || ok != (c.meet != "") {
			t.Errorf("MeetOf(%q, %q) = %q, %v, want %q", c.a, c.b, meet, ok, c.meet)
		}
	}
}

func TestLongestTypesOfUnifyTypes(t *testing.T) {
	sixty := twice(long28)
	for _, c := range []struct {
		a, b, want string
		meets      bool
	}{
		{"x", sixty, "x=" + sixty, true}, {sixty, "x", "x=" + sixty, true}, {sixty, sixty, "-", true},
		{"p(x,x)", "p(y," + long28 + ")", "x=" + long28 + " y=" + long28, true},
		// A binding of 60 bytes, though the meet is longer, and others of more.
		{"p(x,y)", "p(p(y,y)," + long28 + ")", "x=" + sixty + " y=" + long28, false},
		{"p(x,y)", "p(p(y,p(y,i))," + long26 + ")", "", false},
		{"p(x,y)", "p(l(p(y,y))," + long28 + ")", "", false},
		{"p(y,x)", "p(" + long28 + ",p(y,l(y)))", "", false},
		{"p(X,p(Y,p(Z,p(x,p(y,i)))))", "p(p(Y,Y),p(p(Z,Z),p(p(x,x),p(p(y,y),p(p(z,z),i)))))", "", false},
		{"p(x,p(y,l(z)))", "p(l(y),p(l(z)," + nested(13) + "))", "x=" + nested(14) + " y=" + nested(13) + " z=" + nested(12), false},
	} {
		list, ok := impl.UnifyTypes(c.a, c.b)
		checkBindings(t, "UnifyTypes("+c.a+" "+c.b+")", list, ok, c.want)
		meet, ok := impl.MeetOf(c.a, c.b)
		if ok != c.meets || ok != (meet != "") || len(meet) > impl.MaxType {
			t.Errorf("MeetOf(%q, %q) = %q, %v", c.a, c.b, meet, ok)
		}
		if !impl.TypeValid(c.a) || !impl.TypeValid(c.b) || impl.AreApart(c.a, c.b) {
			t.Errorf("AreApart(%q, %q) = true", c.a, c.b)
		}
	}
	if meet, ok := impl.MeetOf("p(x,x)", "p(y,"+long28+")"); meet != sixty || !ok {
		t.Errorf("MeetOf of 60 bytes = %q, %v", meet, ok)
	}
	if meet, ok := impl.MeetOf("p(x,p(x,i))", "p(y,p("+long26+",i))"); meet != "" || ok {
		t.Errorf("MeetOf of 61 bytes = %q, %v", meet, ok)
	}
}

func TestAreApart(t *testing.T) {
	for _, c := range []struct {
		a, b string
		want bool
	}{
		{"i", "i", false}, {"i", "b", true}, {"x", "i", false}, {"i", "x", false}, {"x", "x", false}, {"x", "y", false}, {"l(x)", "m(y)", true}, {"l(x)", "l(i)", false}, {"l(i)", "l(l(x))", true},
		// One letter in both types is two variables.
		{"x", "l(x)", false}, {"l(x)", "x", false}, {"l(x)", "l(p(x,X))", false}, {"p(x,y)", "p(l(y),l(x))", false}, {"p(x,i)", "p(b,x)", false}, {"p(x,l(y))", "p(l(x),x)", false},
		{"p(X,p(Y,p(Z,p(x,p(y,z)))))", "p(l(X),p(l(Y),p(l(Z),p(l(x),p(l(y),l(z))))))", false}, {"p(x,x)", "p(x,l(y))", false},
		// Within one type it is one.
		{"p(x,x)", "p(i,b)", true}, {"p(i,b)", "p(x,x)", true}, {"p(x,x)", "p(i,i)", false}, {"p(x,x)", "p(x,l(x))", true}, {"p(x,l(x))", "p(x,x)", true}, {"p(x,x)", "p(y,l(y))", true}, {"p(x,l(x))", "p(l(x),x)", true},
		{"p(x,p(y,x))", "p(x,p(x,l(x)))", true}, {"p(x,p(y,x))", "p(X,p(l(X),l(X)))", true}, {"p(x,p(x,l(y)))", "p(y,p(x,x))", false}, {"p(x,p(x,y))", "p(y,p(l(x),x))", false},
		{"p(X,p(X,p(Y,p(Y,i))))", "p(x,p(y,p(y,p(z,z))))", false}, {"p(X,p(X,p(Y,p(Y,i))))", "p(b,p(y,p(y,p(z,z))))", true},
	} {
		if got := impl.AreApart(c.a, c.b); got != c.want {
			t.Errorf("AreApart(%q, %q) = %v", c.a, c.b, got)
		}
	}
}

func TestMatchingOfTextsThatAreNoTypes(t *testing.T) {
	for _, s := range textsThatAreNoTypes() {
		for _, other := range []string{"i", "x", "p(x,y)", "q", s} {
			for _, pair := range [][2]string{{s, other}, {other, s}} {
				match, ok := impl.MatchType(pair[0], pair[1])
				list, fine := impl.UnifyTypes(pair[0], pair[1])
				meet, met := impl.MeetOf(pair[0], pair[1])
				if ok || fine || met || len(match) != 0 || len(list) != 0 || meet != "" {
					t.Errorf("MatchType, UnifyTypes, MeetOf of %q = %v, %v, %v", pair, ok, fine, met)
				}
				if impl.AreApart(pair[0], pair[1]) || impl.IsInstance(pair[0], pair[1]) {
					t.Errorf("AreApart or IsInstance of %q = true", pair)
				}
			}
		}
	}
	for _, s := range []string{"R", "r", "l(S)", "p(T,t)"} {
		if impl.TypeValid(s) || impl.IsInstance("x", s) || impl.IsInstance(s, s) || impl.AreApart(s, "i") || impl.AreApart("i", s) {
			t.Errorf("%q is taken as a type", s)
		}
	}
}

// partAt returns the type that begins at a place of a type.
func partAt(s string, from int) string {
	depth := 0
	for i := from; i < len(s); i++ {
		switch s[i] {
		case '(':
			depth++
		case ')':
			depth--
		}
		if depth == 0 && (i+1 == len(s) || s[i+1] != '(') {
			return s[from : i+1]
		}
	}
	return s[from:]
}

func differAt(a, b string) int {
	k := 0
	for a[k] == b[k] {
		k++
	}
	return k
}

// unifyTexts makes two texts the same by replacing variables in them, the letters of vars, at the first place where they differ.
func unifyTexts(a, b, vars string) (map[string]string, bool) {
	found := map[string]string{}
	for a != b {
		k := differAt(a, b)
		v, t := partAt(a, k), partAt(b, k)
		if !strings.Contains(vars, v) || strings.Contains(vars, t) && t < v {
			v, t = t, v
		}
		if !strings.Contains(vars, v) || strings.Contains(t, v) {
			return nil, false
		}
		a, b = strings.ReplaceAll(a, v, t), strings.ReplaceAll(b, v, t)
		for w, old := range found {
			found[w] = strings.ReplaceAll(old, v, t)
		}
		found[v] = t
	}
	return found, true
}

const variables = "XYZxyz"

// apartByTexts gives the second type letters that the first one has not.
func apartByTexts(a, b string) bool {
	for i, v := range strings.Split(variables, "") {
		b = strings.ReplaceAll(b, v, "ABCDEF"[i:i+1])
	}
	_, ok := unifyTexts(a, b, variables+"ABCDEF")
	return !ok
}

// meetOfTexts returns what UnifyTypes and MeetOf of two types have to return, as texts, the empty one for none.
func meetOfTexts(a, b string) (string, string) {
	found, ok := unifyTexts(a, b, variables)
	if !ok {
		return "", ""
	}
	meet := a
	var list []impl.Binding
	for _, v := range slices.Sorted(maps.Keys(found)) {
		if len(found[v]) > impl.MaxType {
			return "", ""
		}
		list = append(list, impl.Binding{Var: v, Type: found[v]})
		// What a variable stands for has none that is bound, so that one after the other is all at once.
		meet = strings.ReplaceAll(meet, v, found[v])
	}
	if len(meet) > impl.MaxType {
		meet = ""
	}
	return impl.FormatBindings(list), meet
}

// checkPair holds what the functions return for two types against replacing in texts.
func checkPair(t *testing.T, a, b string) {
	t.Helper()
	want, wantMeet := meetOfTexts(a, b)
	list, ok := impl.UnifyTypes(a, b)
	checkBindings(t, "UnifyTypes("+a+" "+b+")", list, ok, want)
	if meet, ok := impl.MeetOf(a, b); meet != wantMeet || ok != (wantMeet != "") {
		t.Errorf("MeetOf(%q, %q) = %q, %v, want %q", a, b, meet, ok, wantMeet)
	}
	if got := impl.AreApart(a, b); got != apartByTexts(a, b) {
		t.Errorf("AreApart(%q, %q) = %v", a, b, got)
	}
	checkMatch(t, a, b)
}

// checkMatch gives a type letters in place of its variables that are no variables, so that only those of the pattern are bound.
func checkMatch(t *testing.T, pattern, s string) {
	t.Helper()
	letters := strings.NewReplacer("X", "A", "Y", "B", "Z", "C", "x", "D", "y", "E", "z", "F")
	_, want := unifyTexts(pattern, letters.Replace(s), variables)
	list, ok := impl.MatchType(pattern, s)
	if ok != want || !ok && len(list) != 0 || impl.IsInstance(pattern, s) != want {
		t.Errorf("MatchType(%q, %q) = %q, %v", pattern, s, list, ok)
	}
	if !ok {
		return
	}
	bound := ""
	for _, b := range list {
		bound += b.Var
	}
	if got, fine := impl.ApplyBindings(list, pattern); got != s || !fine || bound != impl.VarsOf(pattern) {
		t.Errorf("MatchType(%q, %q) = %q, with which it is %q", pattern, s, list, got)
	}
}

func TestAllPairsOfShortTypes(t *testing.T) {
	for _, list := range [][]string{typesFrom("xyXi", "l", 11), typesFrom("ixXyZ", "lm", 7), typesFrom("ibuxyzXYZ", "", 6)} {
		for _, a := range list {
			for _, b := range list {
				checkPair(t, a, b)
			}
		}
	}
}

// someType returns a type with some letters in a number of bytes at most.
func someType(r *rand.Rand, leaves string, length int) string {
	switch k := r.Intn(10); {
	case length >= 6 && k < 7:
		first := someType(r, leaves, 1+r.Intn(length-5))
		return "p(" + first + "," + someType(r, leaves, length-4-len(first)) + ")"
	case length >= 4 && k < 8:
		return "l(" + someType(r, leaves, length-3) + ")"
	}
	return leaves[r.Intn(len(leaves)):][:1]
}

func TestPairsOfLongTypes(t *testing.T) {
	r := rand.New(rand.NewSource(1))
	for range 20000 {
		for _, leaves := range []string{"XYZxyz", "XYZxyzi", "xyi", "Xxb"} {
			length := 20 + r.Intn(41)
			checkPair(t, someType(r, leaves, length), someType(r, leaves, length))
		}
	}
}

// someRow returns a type that has short ones in a row.
func someRow(r *rand.Rand, count int) string {
	row := "i"
	for range count {
		row = "p(" + someType(r, "XYZxyzXYZxyzi", 1+r.Intn(1+r.Intn(7))) + "," + row + ")"
	}
	return row
}

// TestPairsOfRows has types in which variables meet variables at many places.
func TestPairsOfRows(t *testing.T) {
	r := rand.New(rand.NewSource(2))
	for range 50000 {
		count := 3 + r.Intn(5)
		a, b := someRow(r, count), someRow(r, count)
		if len(a) <= impl.MaxType && len(b) <= impl.MaxType {
			checkPair(t, a, b)
		}
	}
}

// TestMeetsAreMostGeneral applies all small bindings to two types: where they make these the same, there is a meet, of whose form this is.
func TestMeetsAreMostGeneral(t *testing.T) {
	values := []string{"i", "b", "x", "y", "l(i)", "l(x)", "l(y)", "l(l(i))", "p(x,y)"}
	list := typesFrom("xyi", "l", 7)
	for _, a := range list {
		for _, b := range list {
			meet, ok := impl.MeetOf(a, b)
			for _, x := range values {
				for _, y := range values {
					with := []impl.Binding{{Var: "x", Type: x}, {Var: "y", Type: y}}
					first, _ := impl.ApplyBindings(with, a)
					second, _ := impl.ApplyBindings(with, b)
					if first == second && (!ok || !impl.IsInstance(meet, first)) {
						t.Fatalf("MeetOf(%q, %q) = %q, %v, but both are %q with x=%s y=%s", a, b, meet, ok, first, x, y)
					}
				}
			}
			if ok && !(impl.IsInstance(a, meet) && impl.IsInstance(b, meet)) {
				t.Fatalf("MeetOf(%q, %q) = %q", a, b, meet)
			}
		}
	}
}

func TestBindingsAreNewMemory(t *testing.T) {
	for _, call := range []func() []impl.Binding{
		func() []impl.Binding { list, _ := impl.MatchType("p(x,y)", "p(i,b)"); return list },
		func() []impl.Binding { list, _ := impl.UnifyTypes("p(x,y)", "p(i,b)"); return list },
	} {
		first, second := call(), call()
		first[0] = impl.Binding{Var: "q", Type: "q"}
		_ = append(first[:1], impl.Binding{Var: "q", Type: "q"})
		if want := bindingsOf("x=i y=b"); !slices.Equal(second, want) || !slices.Equal(call(), want) {
			t.Errorf("results share memory: %q", second)
		}
	}
}

func TestBindingsAreLeftAsTheyAre(t *testing.T) {
	for _, s := range append(validBindings(), bindingsThatAreNotValid()...) {
		room := append(bindingsOf(s), bindingsOf("q=kept")...)
		list := room[:len(room)-1]
		impl.BindingsValid(list)
		impl.ApplyBindings(list, "p(x,X)")
		impl.FormatBindings(list)
		if !slices.Equal(room, append(bindingsOf(s), bindingsOf("q=kept")...)) {
			t.Errorf("the bindings %q became %q", s, room)
		}
	}
}
