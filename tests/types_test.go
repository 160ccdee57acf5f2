package tests

import (
	"slices"
	"strings"
	"testing"

	"loop.example/instancesearch/impl"
)

// nested returns a type of count constructors l around i, of 3*count+1 bytes.
func nested(count int) string {
	return strings.Repeat("l(", count) + "i" + strings.Repeat(")", count)
}

// typeFacts tells what the functions return for a type.
type typeFacts struct {
	text, head, vars string
	parts            []string
	size, depth      int
	renamed          string
}

func typesWithFacts() []typeFacts {
	return []typeFacts{
		{"i", "i", "", nil, 1, 0, "i"},
		{"b", "b", "", nil, 1, 0, "b"},
		{"u", "u", "", nil, 1, 0, "u"},
		{"x", "x", "x", nil, 1, 0, "X"},
		{"y", "y", "y", nil, 1, 0, "Y"},
		{"z", "z", "z", nil, 1, 0, "Z"},
		{"X", "X", "X", nil, 1, 0, "X"},
		{"Y", "Y", "Y", nil, 1, 0, "Y"},
		{"Z", "Z", "Z", nil, 1, 0, "Z"},
		{"l(i)", "l", "", []string{"i"}, 2, 1, "l(i)"},
		{"m(z)", "m", "z", []string{"z"}, 2, 1, "m(Z)"},
		{"p(x,l(i))", "p", "x", []string{"x", "l(i)"}, 4, 2, "p(X,l(i))"},
		{"p(l(m(b)),u)", "p", "", []string{"l(m(b))", "u"}, 5, 3, "p(l(m(b)),u)"},
		{"p(p(i,y),p(b,u))", "p", "y", []string{"p(i,y)", "p(b,u)"}, 7, 2, "p(p(i,Y),p(b,u))"},
		{"p(y,p(X,y))", "p", "Xy", []string{"y", "p(X,y)"}, 5, 2, "p(Y,p(X,Y))"},
		{"p(z,p(p(y,x),p(Z,p(Y,X))))", "p", "XYZxyz", []string{"z", "p(p(y,x),p(Z,p(Y,X)))"}, 11, 4, "p(Z,p(p(Y,X),p(Z,p(Y,X))))"},
		{nested(19), "l", "", []string{nested(18)}, 20, 19, nested(19)},
	}
}

// textsThatAreNoTypes has missing brackets, letters that have no parts, letters without their parts, and other texts.
func textsThatAreNoTypes() []string {
	return []string{
		"", " ", "q", "I", "L(i)", "P(i,b)", "1", "-", "ix", "xy", "i ", " i", "i\n", "l i",
		"(", ")", ",", "()", "(i)", "((i))", ",i", "i,",
		"l", "m", "p", "l(", "l(i", "l)", "li", "li)", "l[i]", "l((i))", "l(i))", "l(i)i", "l()", "l( i)", "l(i )", "l (i)",
		"l(l)", "l(l(i)", "l(l(i)))", "l(q)", "l(,)", "l(i,)", "l(,i)", "l(i,b)", "m(i,b)", "m(x y)",
		"p()", "p(i)", "p(i,)", "p(,i)", "p(,)", "p(i,b", "p(i;b)", "p(i b)", "p(ib)", "pi,b)", "p(i,b,u)", "p((i,b))", "p(i,,b)", "p(i, b)",
		"p(i,l(b)", "p(l(i,b)", "p(l(i),b))", "p(i,p)", "p(q,i)", "p(i,q)", "p(i,p(b))",
		"i()", "i(b)", "b(i,i)", "u(u)", "x(i)", "Z(x)", "l(i(b))",
		"\x00", "i\x00", "\xff", "l(\xff)", "l(i\x80)", "é", "l(х)", "×",
		nested(20), nested(200), strings.Repeat("l(", 1000), strings.Repeat("i", 61), "i" + strings.Repeat(" ", 100000),
	}
}

func TestFactsOfTypes(t *testing.T) {
	for _, c := range typesWithFacts() {
		if !impl.TypeValid(c.text) {
			t.Errorf("TypeValid(%q) = false", c.text)
		}
		if got := impl.HeadOf(c.text); got != c.head {
			t.Errorf("HeadOf(%q) = %q, want %q", c.text, got, c.head)
		}
		if got := impl.PartsOf(c.text); !slices.Equal(got, c.parts) {
			t.Errorf("PartsOf(%q) = %q, want %q", c.text, got, c.parts)
		}
		if got, ok := impl.MakeType(c.head, c.parts); got != c.text || !ok {
			t.Errorf("MakeType(%q, %q) = %q, %v, want %q", c.head, c.parts, got, ok, c.text)
		}
		if got := impl.VarsOf(c.text); got != c.vars {
			t.Errorf("VarsOf(%q) = %q, want %q", c.text, got, c.vars)
		}
		if got := impl.IsGround(c.text); got != (c.vars == "") {
			t.Errorf("IsGround(%q) = %v", c.text, got)
		}
		if got := impl.SizeOf(c.text); got != c.size {
			t.Errorf("SizeOf(%q) = %d, want %d", c.text, got, c.size)
		}
		if got := impl.DepthOf(c.text); got != c.depth {
			t.Errorf("DepthOf(%q) = %d, want %d", c.text, got, c.depth)
		}
		if got := impl.RenameType(c.text); got != c.renamed {
			t.Errorf("RenameType(%q) = %q, want %q", c.text, got, c.renamed)
		}
		for _, v := range strings.Split("XYZxyz", "") {
			if got := impl.CountVar(c.text, v); got != strings.Count(c.text, v) {
				t.Errorf("CountVar(%q, %q) = %d", c.text, v, got)
			}
		}
	}
}

func TestFactsOfTextsThatAreNoTypes(t *testing.T) {
	for _, s := range textsThatAreNoTypes() {
		if impl.TypeValid(s) {
			t.Errorf("TypeValid(%q) = true", s)
		}
		if got := impl.HeadOf(s); got != "" {
			t.Errorf("HeadOf(%q) = %q", s, got)
		}
		if got := impl.PartsOf(s); len(got) != 0 {
			t.Errorf("PartsOf(%q) = %q", s, got)
		}
		if got := impl.VarsOf(s); got != "" {
			t.Errorf("VarsOf(%q) = %q", s, got)
		}
		if impl.IsGround(s) {
			t.Errorf("IsGround(%q) = true", s)
		}
		if got := impl.SizeOf(s); got != -1 {
			t.Errorf("SizeOf(%q) = %d", s, got)
		}
		if got := impl.DepthOf(s); got != -1 {
			t.Errorf("DepthOf(%q) = %d", s, got)
		}
		if got := impl.CountVar(s, "x"); got != -1 {
			t.Errorf("CountVar(%q, x) = %d", s, got)
		}
		if got := impl.RenameType(s); got != "" {
			t.Errorf("RenameType(%q) = %q", s, got)
		}
		if got, ok := impl.MakeType("l", []string{s}); got != "" || ok {
			t.Errorf("MakeType(l, %q) = %q, %v", s, got, ok)
		}
		for _, parts := range [][]string{{s, "i"}, {"i", s}} {
			if got, ok := impl.MakeType("p", parts); got != "" || ok {
				t.Errorf("MakeType(p, %q) = %q, %v", parts, got, ok)
			}
		}
	}
}

func TestLongestTypes(t *testing.T) {
	if impl.MaxType != 60 {
		t.Errorf("MaxType = %d", impl.MaxType)
	}
	half := nested(9)
	longest := "p(" + half + "," + half + ")"
	if len(longest) != 60 {
		t.Fatalf("%q has %d bytes", longest, len(longest))
	}
	if !impl.TypeValid(longest) || impl.SizeOf(longest) != 21 || impl.DepthOf(longest) != 10 || !slices.Equal(impl.PartsOf(longest), []string{half, half}) {
		t.Errorf("a type of 60 bytes is none: %q", longest)
	}
	if got, ok := impl.MakeType("p", []string{half, half}); got != longest || !ok {
		t.Errorf("MakeType of 60 bytes = %q, %v", got, ok)
	}
	for _, parts := range [][]string{{nested(19)}, {longest}} {
		if got, ok := impl.MakeType("m", parts); got != "" || ok {
			t.Errorf("MakeType(m, %q) = %q, %v", parts, got, ok)
		}
	}
	parts := []string{"p(i,b)", "p(" + nested(15) + ",b)"}
	tooLong := "p(" + parts[0] + "," + parts[1] + ")"
	if got, ok := impl.MakeType("p", parts); got != "" || ok || len(tooLong) != 61 || impl.TypeValid(tooLong) {
		t.Errorf("MakeType of %d bytes = %q, %v", len(tooLong), got, ok)
	}
}

func TestMakeTypeOfLettersWithoutParts(t *testing.T) {
	for _, head := range strings.Split("ibuxyzXYZ", "") {
		if got, ok := impl.MakeType(head, nil); got != head || !ok {
			t.Errorf("MakeType(%q, nil) = %q, %v", head, got, ok)
		}
		if got, ok := impl.MakeType(head, []string{}); got != head || !ok {
			t.Errorf("MakeType(%q, {}) = %q, %v", head, got, ok)
		}
	}
}

func TestMakeTypeThatThereIsNot(t *testing.T) {
	for _, c := range []struct {
		head  string
		parts []string
	}{
		{"", nil}, {"", []string{"i"}}, {"q", nil}, {"q", []string{"i"}}, {"\xff", nil}, {"é", nil}, {"(", nil}, {"I", nil},
		{"ii", nil}, {"l(i)", nil}, {"p(i,b)", nil}, {"l ", []string{"i"}}, {"ll", []string{"i"}}, {"p(i,", []string{"b"}},
		{"i", []string{"i"}}, {"x", []string{"i"}}, {"Z", []string{"i", "b"}}, {"i", []string{""}},
		{"l", nil}, {"l", []string{}}, {"l", []string{"i", "b"}}, {"m", nil}, {"m", []string{"i", "b"}},
		{"p", nil}, {"p", []string{"i"}}, {"p", []string{"i", "b", "u"}}, {"p", []string{"i,b"}},
		{"l", []string{""}}, {"l", []string{"q"}}, {"l", []string{"l"}}, {"l", []string{"(i)"}},
		{"p", []string{"", ""}}, {"p", []string{"i", ""}}, {"p", []string{"", "i"}},
		// These fit if they are joined first.
		{"p", []string{"p(i", "b),u"}}, {"p", []string{"i,p(b", "u)"}}, {"p", []string{"u,p(i", "b)"}},
	} {
		if got, ok := impl.MakeType(c.head, c.parts); got != "" || ok {
			t.Errorf("MakeType(%q, %q) = %q, %v", c.head, c.parts, got, ok)
		}
	}
}

func TestCountVarOfNoVariable(t *testing.T) {
	for _, v := range []string{"", "i", "b", "u", "l", "m", "p", "(", ",", "w", "W", "xx", "xy", "x ", "l(x)", "\xff", "é"} {
		for _, s := range []string{"i", "x", "p(x,y)", "q", ""} {
			if got := impl.CountVar(s, v); got != -1 {
				t.Errorf("CountVar(%q, %q) = %d", s, v, got)
			}
		}
	}
}

// allTypes returns all types of at most a length, written by the grammar alone.
func allTypes(length int) map[string]bool {
	all := map[string]bool{}
	for _, s := range typesFrom("ibuxyzXYZ", "lm", length) {
		all[s] = true
	}
	return all
}

// typesFrom returns all types of at most a length that have these letters without parts, these with one part, and p.
func typesFrom(leaves, heads string, length int) []string {
	byLength := make([][]string, length+1)
	var all []string
	for n := 1; n <= length; n++ {
		if n == 1 {
			byLength[n] = strings.Split(leaves, "")
		}
		for k := 1; k <= n-3; k++ {
			for _, a := range byLength[k] {
				if k == n-3 {
					for _, head := range heads {
						byLength[n] = append(byLength[n], string(head)+"("+a+")")
					}
				} else if k < n-4 {
					for _, b := range byLength[n-4-k] {
						byLength[n] = append(byLength[n], "p("+a+","+b+")")
					}
				}
			}
		}
		all = append(all, byLength[n]...)
	}
	return all
}

func TestTypeValidOfAllShortTexts(t *testing.T) {
	types := allTypes(7)
	letters := "ixlp(),"
	var try func(s string, left int)
	try = func(s string, left int) {
		if impl.TypeValid(s) != types[s] {
			t.Errorf("TypeValid(%q) = %v", s, !types[s])
		}
		if left == 0 {
			return
		}
		for _, c := range letters {
			try(s+string(c), left-1)
		}
	}
	try("", 7)
}

func TestTypesFitTheirParts(t *testing.T) {
	for s := range allTypes(9) {
		if !impl.TypeValid(s) {
			t.Fatalf("TypeValid(%q) = false", s)
		}
		parts := impl.PartsOf(s)
		if got, ok := impl.MakeType(impl.HeadOf(s), parts); got != s || !ok {
			t.Fatalf("MakeType(%q, %q) = %q, %v", impl.HeadOf(s), parts, got, ok)
		}
		size, depth := 1, 0
		for _, p := range parts {
			size += impl.SizeOf(p)
			depth = max(depth, impl.DepthOf(p)+1)
		}
		if impl.SizeOf(s) != size || impl.DepthOf(s) != depth {
			t.Fatalf("SizeOf(%q) = %d, DepthOf = %d", s, impl.SizeOf(s), impl.DepthOf(s))
		}
		if r := impl.RenameType(s); impl.RenameType(r) != r || impl.VarsOf(r) != strings.Trim(impl.VarsOf(r), "xyz") || impl.SizeOf(r) != size {
			t.Fatalf("RenameType(%q) = %q", s, r)
		}
	}
}

func TestPartsAreNewMemory(t *testing.T) {
	s := "p(x,l(i))"
	first := impl.PartsOf(s)
	second := impl.PartsOf(s)
	first[0] = "changed"
	_ = append(first[:1], "changed")
	if !slices.Equal(second, []string{"x", "l(i)"}) || !slices.Equal(impl.PartsOf(s), []string{"x", "l(i)"}) {
		t.Errorf("PartsOf shares memory: %q", second)
	}
}

func TestMakeTypeLeavesItsParts(t *testing.T) {
	room := []string{"x", "l(i)", "kept", "kept"}
	impl.MakeType("p", room[:2])
	impl.MakeType("l", room[:1])
	if !slices.Equal(room, []string{"x", "l(i)", "kept", "kept"}) {
		t.Errorf("MakeType changed its argument: %q", room)
	}
}

// FuzzTypes runs its seeds in each test run; they have all bytes by themselves and within brackets.
func FuzzTypes(f *testing.F) {
	for b := range 256 {
		f.Add(string([]byte{byte(b)}))
		f.Add("l(" + string([]byte{byte(b)}) + ")")
	}
	f.Fuzz(func(t *testing.T, s string) {
		valid := impl.TypeValid(s)
		if (impl.HeadOf(s) != "") != valid || (impl.SizeOf(s) >= 1) != valid || (impl.DepthOf(s) >= 0) != valid || (impl.RenameType(s) != "") != valid || (impl.CountVar(s, "x") >= 0) != valid {
			t.Errorf("results for %q disagree", s)
		}
		made, ok := impl.MakeType(impl.HeadOf(s), impl.PartsOf(s))
		if ok != valid || valid && made != s || !valid && made != "" {
			t.Errorf("MakeType of the parts of %q = %q, %v", s, made, ok)
		}
		if _, ok := impl.MakeType(s, nil); ok && (!valid || len(s) != 1) {
			t.Errorf("MakeType(%q, nil) = true", s)
		}
		if impl.IsGround(s) != (valid && impl.VarsOf(s) == "") {
			t.Errorf("IsGround(%q)", s)
		}
	})
}
