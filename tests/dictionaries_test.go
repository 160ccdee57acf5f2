package tests

import (
	"math"
	"math/rand"
	"reflect"
	"regexp"
	"slices"
	"strconv"
	"strings"
	"sync"
	"testing"

	"loop.example/instancesearch/impl"
)

func TestLimitOfDictionaries(t *testing.T) {
	if impl.MaxDict != 1200 {
		t.Error("the limit of dictionaries is another one")
	}
}

// dictFacts tells what the functions return for a dictionary.
type dictFacts struct {
	text                  string
	instance, size, depth int
	parts                 []string
	instances             []int
}

func dictsWithFacts() []dictFacts {
	return []dictFacts{
		{"0", 0, 1, 0, nil, []int{0}}, {"5", 5, 1, 0, nil, []int{5}}, {"9", 9, 1, 0, nil, []int{9}},
		{"1(0)", 1, 2, 1, []string{"0"}, []int{0, 1}}, {"0(0)", 0, 2, 1, []string{"0"}, []int{0}}, {"9(8)", 9, 2, 1, []string{"8"}, []int{8, 9}},
		{"1(2,3)", 1, 3, 1, []string{"2", "3"}, []int{1, 2, 3}}, {"4(4,4,4)", 4, 4, 1, []string{"4", "4", "4"}, []int{4}}, {"9(5,0,7)", 9, 4, 1, []string{"5", "0", "7"}, []int{0, 5, 7, 9}},
		{"1(0,2(3,0))", 1, 5, 2, []string{"0", "2(3,0)"}, []int{0, 1, 2, 3}}, {"1(2(3,0),0)", 1, 5, 2, []string{"2(3,0)", "0"}, []int{0, 1, 2, 3}},
		{"1(0,2(3,4,5))", 1, 6, 2, []string{"0", "2(3,4,5)"}, []int{0, 1, 2, 3, 4, 5}}, {"3(2(1(0)))", 3, 4, 3, []string{"2(1(0))"}, []int{0, 1, 2, 3}},
		{"9(8(7),6(5,4(3)),2(1,0))", 9, 10, 3, []string{"8(7)", "6(5,4(3))", "2(1,0)"}, []int{0, 1, 2, 3, 4, 5, 6, 7, 8, 9}},
		{"1(0(0(0(0))),0)", 1, 6, 4, []string{"0(0(0(0)))", "0"}, []int{0, 1}}, {"1(0,0(0(0)),0(0))", 1, 7, 3, []string{"0", "0(0(0))", "0(0)"}, []int{0, 1}},
		{"2" + strings.Repeat("(2", 399) + strings.Repeat(")", 399), 2, 400, 399, []string{"2" + strings.Repeat("(2", 398) + strings.Repeat(")", 398)}, []int{2}},
	}
}

func checkDictFacts(t *testing.T, c dictFacts) {
	t.Helper()
	if !impl.DictValid(c.text) {
		t.Errorf("DictValid(%q) = false", c.text)
	}
	if got := impl.InstanceOf(c.text); got != c.instance {
		t.Errorf("InstanceOf(%q) = %d, want %d", c.text, got, c.instance)
	}
	if got := impl.SizeOfDict(c.text); got != c.size {
		t.Errorf("SizeOfDict(%q) = %d, want %d", c.text, got, c.size)
	}
	if got := impl.DepthOfDict(c.text); got != c.depth {
		t.Errorf("DepthOfDict(%q) = %d, want %d", c.text, got, c.depth)
	}
	if got := impl.PartsOfDict(c.text); !slices.Equal(got, c.parts) {
		t.Errorf("PartsOfDict(%q) = %q, want %q", c.text, got, c.parts)
	}
	if got := impl.InstancesIn(c.text); !slices.Equal(got, c.instances) {
		t.Errorf("InstancesIn(%q) = %v, want %v", c.text, got, c.instances)
	}
	if got, ok := impl.MakeDict(c.instance, c.parts); got != c.text || !ok {
		t.Errorf("MakeDict(%d, %q) = %q, %v, want %q", c.instance, c.parts, got, ok, c.text)
	}
}

func TestFactsOfDictionaries(t *testing.T) {
	for _, c := range dictsWithFacts() {
		checkDictFacts(t, c)
	}
}

// longDict returns a dictionary of so many bytes, at least 11: up to two instances 1, each with two parts of which
// the second one is 2, and within these instances 0 with one part each, down to 2.
func longDict(length int) string {
	wide := []int{1, 0, 2}[length%3]
	count := (length - 1 - 5*wide) / 3
	return strings.Repeat("1(", wide) + digitsOf(count+1) + strings.Repeat(",2)", wide)
}

// digitsOf returns a dictionary of so many digits, one within the other.
func digitsOf(count int) string {
	return strings.Repeat("0(", count-1) + "2" + strings.Repeat(")", count-1)
}

// selfWorld has one need that asks for itself and is met as well, as longDict has it.
const selfWorld = "E;E i:E i;E i:E i&E i;E i"

func TestLongestDictionaries(t *testing.T) {
	w := validWorld(t, selfWorld)
	for length := 11; length <= 1210; length++ {
		if length == 50 {
			length = 1170
		}
		d := longDict(length)
		if len(d) != length || !dictByShape(d) {
			t.Fatalf("the dictionary %q of this test is not one of %d bytes", d, length)
		}
		want := "ok"
		if length > 1200 {
			want = "wrong"
			checkNoDict(t, d)
		}
		if got := impl.DictValid(d); got != (length <= 1200) {
			t.Errorf("DictValid of %d bytes = %v", length, got)
		}
		if got := impl.CheckDict(w, needOf("E i"), d); got != want {
			t.Errorf("CheckDict of %d bytes = %q", length, got)
		}
	}
	d := longDict(1200)
	if len(d) != impl.MaxDict || impl.InstanceOf(d) != 1 || impl.SizeOfDict(d) != strings.Count(d, "0")+strings.Count(d, "1")+strings.Count(d, "2") || impl.DepthOfDict(d) != strings.Count(d, "(") {
		t.Errorf("the longest dictionary has %d digits and the depth %d", impl.SizeOfDict(d), impl.DepthOfDict(d))
	}
	if list := impl.PartsOfDict(d); len(list) != 2 || len(list[0]) != 1195 || list[1] != "2" {
		t.Errorf("the longest dictionary has the parts %q", list)
	}
	if list := impl.InstancesIn(d); !slices.Equal(list, []int{0, 1, 2}) {
		t.Errorf("the longest dictionary has the instances %v", list)
	}
	// What is wrong stands at its end.
	for last, want := range map[string]string{"2": "ok", "1": "parts", "0": "parts", "3": "instance"} {
		if got := impl.CheckDict(w, needOf("E i"), strings.Replace(d, "2", last, 1)); got != want {
			t.Errorf("CheckDict of a long dictionary with %s = %q, want %q", last, got, want)
		}
	}
}

func TestLongestDictionariesThatAreMade(t *testing.T) {
	for _, c := range []struct {
		lengths []int
		ok      bool
	}{
		{[]int{1197}, true}, {[]int{1198}, false}, {[]int{1199}, false}, {[]int{1200}, false}, {[]int{1201}, false},
		{[]int{600, 596}, true}, {[]int{600, 597}, false}, {[]int{13, 1183}, true}, {[]int{1185, 12}, false}, {[]int{1200, 1200}, false},
		{[]int{400, 400, 395}, true}, {[]int{395, 400, 401}, false}, {[]int{1172, 11, 12}, true}, {[]int{11, 12, 1173}, false}, {[]int{1200, 1200, 1200}, false}, {[]int{100, 100, 1201}, false},
	} {
		var parts []string
		for _, length := range c.lengths {
			parts = append(parts, longDict(length))
		}
		want := ""
		if c.ok {
			want = "7(" + strings.Join(parts, ",") + ")"
		}
		if got, ok := impl.MakeDict(7, parts); got != want || ok != c.ok || impl.DictValid(got) != c.ok {
			t.Errorf("MakeDict of parts of %v bytes = %q, %v", c.lengths, got, ok)
		}
	}
}

// textsThatAreNoDicts has missing brackets, other signs, too many digits or parts, and other texts.
func textsThatAreNoDicts() []string {
	return []string{
		"", " ", "x", "a", "-", "-1", "+1", "12", "01", "00", "10", "1 ", " 1", "1\n", "1.", "(", ")", ",", "()", "(0)", "((0))", ",0", "0,", "0,0", "0)", "(0", "0(", "0()", "0( )", "0(,)", "0(x)", "0(12)", "0(-1)",
		"1(0", "1(0,", "1(0,0", "1(0,)", "1(,0)", "1(0,,0)", "1((0))", "1(0))", "1(0)0", "1(0)(0)", "1(0)1(0)", "1(0),0", "1(0),1(0)", "1 (0)", "1( 0)", "1(0 )", "1(0) ", " 1(0)", "1(0, 0)", "1(0 ,0)", "1(0;0)", "1(0 0)", "1[0]", "1{0}", "1<0>",
		"1(0,0,0,0)", "1(0,0,0,0,0)", "1(0,0,0,)", "1(0,2(0,0,0,0))", "1(2(0,0,0,0))", "1(0,2())", "1(0,2(0)", "1(0,2(0)))", "1(2(0)", "1(2(0)))", "1(2)(0)", "1(0(0)0)", "1(0(0)(0))", "1(00)", "1(0,10)", "10(0)", "1(0,2(3,x))", "1(0,2(3;4))",
		"\x00", "0\x00", "\x000", "\xff", "0\xff", "1(\xff)", "1(0\x80)", "٣", "1(٣)", "0(", "１", "i", "l(i)", "p(0,0)", "0(aE)", "a", "aE", "1(0,i)",
		strings.Repeat("0(", 1000), strings.Repeat("0", 1200), strings.Repeat("0,", 600), strings.Repeat("(", 1200), strings.Repeat("0(", 500000), "0" + strings.Repeat(" ", 100000), strings.Repeat("1(", 600) + strings.Repeat(")", 600),
	}
}

// checkNoDict is for a text that is no dictionary.
func checkNoDict(t *testing.T, d string) {
	t.Helper()
	if impl.DictValid(d) || impl.InstanceOf(d) != -1 || impl.SizeOfDict(d) != -1 || impl.DepthOfDict(d) != -1 || len(impl.PartsOfDict(d)) != 0 || len(impl.InstancesIn(d)) != 0 {
		t.Errorf("%.300q is taken as a dictionary", d)
	}
	for _, parts := range [][]string{{d}, {d, "0"}, {"0", d}, {"0", d, "0"}, {"0", "0", d}, {d, d, d}} {
		if got, ok := impl.MakeDict(1, parts); got != "" || ok {
			t.Errorf("MakeDict(1, %.300q) = %.300q, %v", parts, got, ok)
		}
	}
	w := worldOf(selfWorld)
	if got := impl.CheckDict(w, needOf("E i"), d); got != "wrong" {
		t.Errorf("CheckDict(%.300q) = %q", d, got)
	}
	if got, ok := impl.FormOf(w, d); got != "" || ok {
		t.Errorf("FormOf(%.300q) = %q, %v", d, got, ok)
	}
}

func TestTextsThatAreNoDictionaries(t *testing.T) {
	for _, d := range textsThatAreNoDicts() {
		checkNoDict(t, d)
	}
}

func TestMakeDictThatThereIsNot(t *testing.T) {
	many := make([]string, 1000000)
	for i := range many {
		many[i] = "0"
	}
	for _, parts := range [][]string{nil, {}, {"0"}, {"0", "0"}, {"0", "1(0)", "2"}} {
		for _, i := range []int{-1, -2, 10, 11, 12, 48, 57, 100, 256, 257, 1 << 32, -1 << 32, math.MaxInt, math.MinInt} {
			if got, ok := impl.MakeDict(i, parts); got != "" || ok {
				t.Errorf("MakeDict(%d, %q) = %q, %v", i, parts, got, ok)
			}
		}
		for i := range 10 {
			want := strconv.Itoa(i)
			if len(parts) > 0 {
				want += "(" + strings.Join(parts, ",") + ")"
			}
			if got, ok := impl.MakeDict(i, parts); got != want || !ok {
				t.Errorf("MakeDict(%d, %q) = %q, %v", i, parts, got, ok)
			}
		}
	}
	// Texts that would fit once they are joined are no parts.
	for _, parts := range [][]string{{"0,0"}, {"0(0", "0)"}, {"0(0", "0", "0)"}, {"0)", "(0"}, {"0),1(0"}, {""}, {"", ""}, {"0,"}, {",0"}, {"0", ""}, {"0", "0", "0", "0"}, {"0", "0", "0", ""}, many[:5], many} {
		if got, ok := impl.MakeDict(1, parts); got != "" || ok {
			t.Errorf("MakeDict(1, %.300q) = %.300q, %v", parts, got, ok)
		}
	}
}

var innermost = regexp.MustCompile(`[0-9]\([0-9P](,[0-9P]){0,2}\)`)

// dictByShape replaces dictionaries that have no brackets in them by a letter, as often as there are some.
func dictByShape(s string) bool {
	if strings.Contains(s, "P") {
		return false
	}
	for innermost.MatchString(s) {
		s = innermost.ReplaceAllString(s, "P")
	}
	return s == "P" || len(s) == 1 && '0' <= s[0] && s[0] <= '9'
}

// checkDictText holds the functions against the shape of a text.
func checkDictText(t *testing.T, s string) {
	t.Helper()
	if len(s) > 1200 || !dictByShape(s) {
		if impl.DictValid(s) {
			t.Errorf("DictValid(%q) = true", s)
		}
		return
	}
	var digits []int
	size, deep, depth := 0, 0, 0
	for _, c := range s {
		switch c {
		case '(':
			deep++
		case ')':
			deep--
		case ',':
		default:
			digits = append(digits, int(c-'0'))
			size++
		}
		depth = max(depth, deep)
	}
	i, parts := splitDict(s)
	slices.Sort(digits)
	checkDictFacts(t, dictFacts{s, i, size, depth, parts, slices.Compact(digits)})
}

// splitDict returns the instance of a dictionary and its parts.
func splitDict(d string) (int, []string) {
	var parts []string
	depth, from := 0, 2
	for k, c := range d {
		switch {
		case c == '(':
			depth++
		case c == ')' && depth > 1:
			depth--
		case c == ')' || c == ',' && depth == 1:
			parts = append(parts, d[from:k])
			from = k + 1
		}
	}
	return int(d[0] - '0'), parts
}

func TestAllShortTextsOfDictionaries(t *testing.T) {
	var try func(s string, left int)
	try = func(s string, left int) {
		checkDictText(t, s)
		if left == 0 {
			return
		}
		for _, c := range "07(,)x" {
			try(s+string(c), left-1)
		}
	}
	try("", 6)
	// Longer texts of signs that fit.
	var fit func(s string, left int)
	fit = func(s string, left int) {
		checkDictText(t, s)
		if left == 0 {
			return
		}
		for _, c := range "3(,)" {
			fit(s+string(c), left-1)
		}
	}
	fit("3(", 8)
}

func TestDictionariesOfAllBytes(t *testing.T) {
	for b := range 256 {
		c := string([]byte{byte(b)})
		if got := impl.DictValid(c); got != ('0' <= b && b <= '9') {
			t.Errorf("DictValid(%q) = %v", c, got)
		}
		for _, s := range []string{c, "1" + c, c + "1", c + "(0)", "1" + c + "0)", "1(" + c + ")", "1(0" + c, "1(0" + c + "0)", "1(0)" + c, "1(0,2(" + c + "))", "1(" + c + "2(3))", c + "1(0)"} {
			checkDictText(t, s)
		}
	}
}

func TestChangedTextsOfDictionaries(t *testing.T) {
	r := rand.New(rand.NewSource(8))
	fits := 0
	for range 20000 {
		s := someTree(r, 1+r.Intn(40))
		checkDictText(t, s)
		k := r.Intn(len(s) + 1)
		from := max(0, k-r.Intn(3))
		s = s[:from] + someOf(r, "", "0", "9", "(", ")", ",", "(0)", ",0", "0,", "1(0)", " ", "x") + s[k:]
		if s != "" && dictByShape(s) {
			fits++
		}
		checkDictText(t, s)
	}
	if fits < 1000 {
		t.Errorf("%d of the changed texts are dictionaries", fits)
	}
}

// someTree returns a dictionary of some digits, at most so many.
func someTree(r *rand.Rand, size int) string {
	d := strconv.Itoa(r.Intn(10))
	count := r.Intn(4)
	if size <= count || count == 0 {
		return d
	}
	var parts []string
	for range count {
		parts = append(parts, someTree(r, (size-1)/count))
	}
	return d + "(" + strings.Join(parts, ",") + ")"
}

type answer struct {
	need, dict, want string
}

func checkAnswers(t *testing.T, world string, list []answer) {
	t.Helper()
	w := validWorld(t, world)
	for _, c := range list {
		if got := impl.CheckDict(w, validNeed(t, w, c.need), c.dict); got != c.want {
			t.Errorf("CheckDict(%q, %q, %q) = %q, want %q", world, c.need, c.dict, got, c.want)
		}
		if got := answerByTexts(w, needOf(c.need), c.dict); got != c.want {
			t.Errorf("the model of CheckDict(%q, %q, %q) = %q, want %q", world, c.need, c.dict, got, c.want)
		}
	}
}

func TestDictionariesThatAreRight(t *testing.T) {
	checkAnswers(t, "E;E i;E p(x,y):E x&E y", []answer{{"E i", "0", "ok"}, {"E p(i,i)", "1(0,0)", "ok"}, {"E p(i,p(i,i))", "1(0,1(0,0))", "ok"}, {"E p(p(i,i),i)", "1(1(0,0),0)", "ok"}})
	// Whether a search finds it is of no matter.
	checkAnswers(t, "E O;E i;E l(x):E x;E l(i);E l(x);E b:E b;E b;O i:E b&E l(i)&O i;O i", []answer{
		{"E l(i)", "1(0)", "ok"}, {"E l(i)", "2", "ok"}, {"E l(i)", "3", "ok"}, {"E l(l(i))", "1(1(0))", "ok"}, {"E l(l(i))", "1(2)", "ok"}, {"E l(l(i))", "1(3)", "ok"}, {"E l(l(i))", "3", "ok"},
		{"E b", "5", "ok"}, {"E b", "4(5)", "ok"}, {"E b", "4(4(4(4(5))))", "ok"}, {"E b", strings.Repeat("4(", 399) + "5" + strings.Repeat(")", 399), "ok"},
		{"O i", "7", "ok"}, {"O i", "6(5,2,7)", "ok"}, {"O i", "6(4(5),1(0),6(5,3,7))", "ok"},
		// Variables of a need are letters as others.
		{"E l(x)", "3", "ok"}, {"E l(y)", "3", "ok"}, {"E l(l(x))", "1(3)", "ok"}, {"E l(x)", "2", "form"}, {"E l(l(x))", "1(1(0))", "form"}, {"E x", "3", "form"}, {"E l(x)", "1(3)", "form"},
	})
	// Parts for needs of other classes, in their order, and types that the needs name.
	checkAnswers(t, "E O S;E i;E b;O i;O b;S p(x,y):O y&E x&O x;S l(x):E x&E x&E x;S m(x):S p(b,x)&S l(b);S u:E i", []answer{
		{"S p(i,b)", "4(3,0,2)", "ok"}, {"S p(b,i)", "4(2,1,3)", "ok"}, {"S l(b)", "5(1,1,1)", "ok"}, {"S m(i)", "6(4(2,1,3),5(1,1,1))", "ok"}, {"S u", "7(0)", "ok"},
		{"S p(i,b)", "4(2,0,3)", "form"}, {"S p(i,b)", "4(3,2,0)", "class"}, {"S p(i,b)", "4(0,3,2)", "class"}, {"S p(b,i)", "4(3,0,2)", "form"}, {"S m(i)", "6(5(1,1,1),4(2,1,3))", "form"}, {"S u", "7(1)", "form"}, {"S u", "7(2)", "class"},
	})
}

const wrongWorld = "E O;E i;E p(x,y):E x&E y;E l(x):E x;O i;O m(x):O m(l(l(l(l(l(x))))));E p(x,x);O l(x):E x&O x&O l(x)"

func TestDictionariesThatAreWrong(t *testing.T) {
	big := "O m(" + nested(15) + ")"
	checkAnswers(t, wrongWorld, []answer{
		{"E i", "7", "instance"}, {"E i", "9", "instance"}, {"E i", "9(0)", "instance"}, {"E l(i)", "2(8)", "instance"}, {"E l(i)", "2(7(0,0))", "instance"},
		{"E i", "3", "class"}, {"O i", "0", "class"}, {"E l(i)", "6(0,3,6)", "class"}, {"E l(i)", "2(3)", "class"}, {"O l(i)", "2(0)", "class"},
		{"E b", "0", "form"}, {"E i", "2(0)", "form"}, {"E i", "5", "form"}, {"E p(i,b)", "5", "form"}, {"E p(i,b)", "1(0,0)", "form"}, {"E l(b)", "2(0)", "form"}, {"E x", "0", "form"}, {"E p(x,y)", "5", "form"},
		{big, "4(3)", "big"}, {big, "4(4(3))", "big"},
		{"E i", "0(0)", "parts"}, {"E l(i)", "2", "parts"}, {"E l(i)", "2(0,0)", "parts"}, {"E p(i,i)", "1", "parts"}, {"E p(i,i)", "1(0)", "parts"}, {"E p(i,i)", "1(0,0,0)", "parts"}, {"E p(i,i)", "5(0)", "parts"}, {"E l(l(i))", "2(2)", "parts"}, {"E l(l(i))", "2(2(0,0))", "parts"}, {"O l(i)", "6(0,3)", "parts"},
	})
	// The first one that applies.
	checkAnswers(t, wrongWorld, []answer{
		{"O b", "9(9)", "instance"}, {"O b", "0(9)", "class"}, {"E l(b)", "0(9)", "form"}, {"O l(i)", "3(9)", "form"}, {big, "3(9)", "form"}, {big, "0", "class"}, {big, "8", "instance"}, {big, "4", "big"}, {big, "4(9)", "big"}, {big, "4(0,0,0)", "big"},
		{"E i", "0(9)", "parts"}, {"E l(i)", "2(9,9)", "parts"}, {"E p(i,i)", "1(9)", "parts"}, {"E p(i,i)", "1(9,9,9)", "parts"}, {"O l(i)", "6", "parts"}, {"O l(i)", "6(9)", "parts"},
		// Of the first part that is not right, with all that lies in it.
		{"E p(i,i)", "1(9,3)", "instance"}, {"E p(i,i)", "1(3,9)", "class"}, {"E p(i,i)", "1(2(0),9)", "form"}, {"E p(i,i)", "1(0(0),9)", "parts"}, {"E p(i,i)", "1(0,9)", "instance"}, {"E p(i,i)", "1(0,3)", "class"}, {"E p(i,i)", "1(0,2(9))", "form"}, {"E p(i,i)", "1(0,0(9))", "parts"},
		{"E p(l(i),l(i))", "1(2(9),3)", "instance"}, {"E p(l(i),l(i))", "1(2(3),9)", "class"}, {"E p(l(i),l(i))", "1(2(0),2(3))", "class"}, {"E p(l(b),l(i))", "1(2(0),9)", "form"}, {"E p(l(i),l(b))", "1(2(0),2(0))", "form"}, {"E p(l(l(i)),b)", "1(2(2(0,9)),0)", "parts"}, {"E p(l(l(i)),b)", "1(2(2(0)),0)", "form"},
		{"O l(i)", "6(0,3,6(0,3,9))", "instance"}, {"O l(i)", "6(0,3,6(0,6,9))", "form"}, {"O l(i)", "6(0,3,0)", "class"}, {"O l(i)", "6(0,0,9)", "class"}, {"O l(i)", "6(0,9,0)", "instance"}, {"O l(i)", "6(0,3,9)", "instance"}, {"O l(b)", "6(0,0,9)", "form"},
		// big may lie in a part too, and stands before what is wrong behind it.
		{"O m(i)", "4(4(4(4(3))))", "big"}, {"O m(i)", "4(4(4(3)))", "form"}, {"O m(i)", "4(4(4(4)))", "big"}, {"O m(i)", "4(4(4(9)))", "instance"}, {"O m(i)", "4(4(4(0)))", "class"}, {"O m(i)", "4(4(4))", "parts"},
	})
	// Of the needs themselves, the one that is big need not be the first one.
	long := "l(" + long26 + ")"
	checkAnswers(t, "E;E l(x):E b&E p(x,p(x,i));E b;E p(x,y)", []answer{{"E " + long, "0(1,2)", "big"}, {"E " + long, "0(9)", "big"}, {"E " + long, "0", "big"}, {"E l(i)", "0(1,2)", "ok"}, {"E l(" + long28[2:27] + ")", "0(1,2)", "ok"}})
	// 60 bytes are not.
	checkAnswers(t, "E;E l(x):E p(x,x);E p(x,y)", []answer{{"E l(" + long28 + ")", "0(1)", "ok"}, {"E l(l(" + long28 + "))", "0(1)", "big"}})
}

func TestCheckDictOfWhatIsNotValid(t *testing.T) {
	for _, w := range worldsThatAreNotValid() {
		for _, s := range []string{"E l(i)", "E l(x)", "E i", "O i", "A i", "E ", " i", " ", ""} {
			for _, d := range []string{"0", "1", "9", "0(0)", "", "x"} {
				if got := impl.CheckDict(w, needOf(s), d); got != "wrong" {
					t.Errorf("CheckDict(%.300q, %q, %q) = %q", w, s, d, got)
				}
				if got, ok := impl.FormOf(w, d); got != "" || ok {
					t.Errorf("FormOf(%.300q, %q) = %q, %v", w, d, got, ok)
				}
			}
		}
	}
	w := validWorld(t, "E O;E i;E l(x):E x;O i")
	list := []impl.Need{{}, {Class: "E", Type: "l(" + twice(long28) + ")"}}
	for _, s := range textsThatAreNoTypes() {
		list = append(list, impl.Need{Class: "E", Type: s})
	}
	for _, class := range []string{"", "A", "T", "Z", "e", "i", "EO", "EE", "E ", " E", "O;", "\xff", "\x00"} {
		list = append(list, impl.Need{Class: class, Type: "i"})
	}
	for _, n := range list {
		for _, d := range []string{"0", "1(0)", "2", "3", "9(9)", "", "x", "0("} {
			if got := impl.CheckDict(w, n, d); got != "wrong" {
				t.Errorf("CheckDict(%.300q, %q) = %q", n, d, got)
			}
		}
	}
	for _, d := range textsThatAreNoDicts() {
		for _, s := range []string{"E i", "E l(i)", "O i", "E b", "O x"} {
			if got := impl.CheckDict(w, needOf(s), d); got != "wrong" {
				t.Errorf("CheckDict(%q, %.300q) = %q", s, d, got)
			}
		}
	}
}

func TestDictionariesOfSearchesAreRight(t *testing.T) {
	r := rand.New(rand.NewSource(9))
	found := 0
	for range 1500 {
		w, s := fullWorld(r), highType(r, someOf(r, "i", "i", "b"), r.Intn(6))
		for _, c := range w.Classes {
			n := impl.Need{Class: c.Name, Type: s}
			d, why := impl.FindDict(w, n)
			special, reason := impl.SpecialDict(w, n)
			for _, made := range []string{d, special} {
				if made != "" && len(made) <= impl.MaxDict && impl.CheckDict(w, n, made) != "ok" {
					t.Fatalf("CheckDict(%q, %q, %q) = %q", w, n, made, impl.CheckDict(w, n, made))
				}
			}
			if why == "" && reason == "" {
				found++
			}
		}
	}
	if found < 200 {
		t.Errorf("%d searches find a dictionary", found)
	}
}

// answerByTexts tells what is wrong with a dictionary of a valid need.
func answerByTexts(w impl.World, n impl.Need, d string) string {
	k, parts := splitDict(d)
	if k >= len(w.Instances) {
		return "instance"
	}
	i := w.Instances[k]
	if i.Class != n.Class {
		return "class"
	}
	if _, ok := formByTexts(i.Type, n.Type); !ok {
		return "form"
	}
	text := needsByTexts(i, n.Type)
	if text == "" {
		return "big"
	}
	var needs []string
	if text != "-" {
		needs = strings.Split(text, "&")
	}
	if len(needs) != len(parts) {
		return "parts"
	}
	for k, p := range parts {
		if wrong := answerByTexts(w, needOf(needs[k]), p); wrong != "ok" {
			return wrong
		}
	}
	return "ok"
}

// someDict returns a dictionary whose instances are mostly of the right classes, with the right numbers of parts.
func someDict(r *rand.Rand, w impl.World, class string, depth int) string {
	var own []int
	for k, i := range w.Instances {
		if i.Class == class && (depth > 0 || len(i.Needs) == 0) {
			own = append(own, k)
		}
	}
	if len(own) == 0 || r.Intn(60) == 0 {
		return strconv.Itoa(r.Intn(10))
	}
	k := own[r.Intn(len(own))]
	var parts []string
	for _, n := range w.Instances[k].Needs {
		parts = append(parts, someDict(r, w, n.Class, depth-1))
	}
	if r.Intn(60) == 0 {
		parts = append(parts, "0")
	}
	if len(parts) > 3 || len(parts) > 0 && r.Intn(60) == 0 {
		parts = parts[1:]
	}
	if len(parts) == 0 {
		return strconv.Itoa(k)
	}
	return strconv.Itoa(k) + "(" + strings.Join(parts, ",") + ")"
}

func TestAnswersInManyWorlds(t *testing.T) {
	r := rand.New(rand.NewSource(10))
	counts := map[string]int{}
	for k := range 9000 {
		w := searchedWorld(r)
		switch k % 3 {
		case 1:
			w = fullWorld(r)
		case 2:
			w = someWorld(r, "xyib")
		}
		class := w.Classes[r.Intn(len(w.Classes))].Name
		d := someDict(r, w, class, r.Intn(5))
		list := []string{someType(r, "ibx", 1+r.Intn(12)), highType(r, "i", r.Intn(19)), someForm(r, w, "ibx")}
		if form, ok := impl.FormOf(w, d); ok {
			list = append(list, form, strings.NewReplacer("x", "i", "y", "i", "z", "i").Replace(form))
			if longer := strings.ReplaceAll(form, "x", nested(5)); impl.TypeValid(longer) {
				list = append(list, longer)
			}
		}
		for _, s := range list {
			n := impl.Need{Class: class, Type: s}
			want := answerByTexts(w, n, d)
			if got := impl.CheckDict(w, n, d); got != want {
				t.Fatalf("CheckDict(%q, %q, %q) = %q, want %q", impl.FormatWorld(w), n, d, got, want)
			}
			counts[want]++
		}
	}
	for _, want := range []string{"ok", "instance", "class", "form", "big", "parts"} {
		if counts[want] < 50 {
			t.Errorf("%d of the answers of this test are %q", counts[want], want)
		}
	}
}

// checkForm holds FormOf against a text, the empty one for none, and CheckDict of this form against ok, or big.
func checkForm(t *testing.T, world, d, want string) {
	t.Helper()
	w := validWorld(t, world)
	if got, ok := impl.FormOf(w, d); got != want || ok != (want != "") {
		t.Errorf("FormOf(%q, %q) = %q, %v, want %q", world, d, got, ok, want)
	}
	if want == "" {
		return
	}
	n := impl.Need{Class: w.Instances[d[0]-'0'].Class, Type: want}
	if got := impl.CheckDict(w, n, d); got != "ok" && got != "big" {
		t.Errorf("CheckDict(%q, %q, %q) = %q", world, n, d, got)
	}
}

func checkForms(t *testing.T, world string, pairs ...string) {
	t.Helper()
	for k := 0; k < len(pairs); k += 2 {
		checkForm(t, world, pairs[k], pairs[k+1])
	}
}

func TestFormsOfDictionaries(t *testing.T) {
	checkForms(t, "E;E i;E p(x,y):E x&E y", "0", "i", "1(0,0)", "p(i,i)", "1(0,1(0,0))", "p(i,p(i,i))", "1(1(0,0),0)", "p(p(i,i),i)")
	checkForms(t, wrongWorld, "0", "i", "3", "i", "5", "p(x,x)", "2(0)", "l(i)", "2(5)", "l(p(x,x))", "1(0,5)", "p(i,p(x,x))", "1(2(0),2(2(0)))", "p(l(i),l(l(i)))")
	// Whatever its class, but of the classes that needs have.
	checkForms(t, "E O;E l(x):O x;O l(x):E x;E i;O b;O p(x,y):E x&O y&E b;E b", "0(3)", "l(b)", "0(1(2))", "l(l(i))", "1(0(3))", "l(l(b))", "0(2)", "", "0(0(3))", "", "1(3)", "", "4(2,3,5)", "p(i,b)", "4(3,3,5)", "", "4(2,2,5)", "", "4(2,3,2)", "", "4(2,3,3)", "")
	// It is right for no type, or has no instance, or more or fewer parts.
	checkForms(t, wrongWorld, "7", "", "9", "", "2(9)", "", "1(0,9)", "", "2", "", "2(0,0)", "", "1", "", "1(0)", "", "1(0,0,0)", "", "0(0)", "", "5(0)", "", "2(2)", "", "1(0,2)", "", "1(2,0)", "", "4(3)", "", "4(4(3))", "", "6(0,3,3)", "", "6(0,3,6(0,3,3))", "", "2(3)", "")
	// Needs of types without variables do not change it.
	checkForms(t, "E;E l(x):E i&E m(i);E i;E m(x):E x;E b:E l(i);E b:E i", "0(1,2(1))", "l(x)", "0(1,2(4(1)))", "", "3(0(1,2(1)))", "b", "3(1)", "", "4(1)", "b", "2(0(1,2(1)))", "m(l(x))", "2(2(4(1)))", "m(m(b))")
	// Letters of an instance are others than those of its needs' instances.
	checkForms(t, "E;E p(x,y):E y&E x;E l(x);E m(y);E p(l(x),x);E p(i,b)", "0(1,2)", "p(m(x),l(y))", "0(1,1)", "p(l(x),l(y))", "0(3,3)", "p(p(l(x),x),p(l(y),y))", "0(4,3)", "p(p(l(x),x),p(i,b))")
}

func TestVariablesOfForms(t *testing.T) {
	// They are x, y and z in the order in which they stand there first, whatever they are in the instance.
	checkForms(t, "E;E l(Z);E p(z,y);E p(y,p(X,y));E p(Y,p(X,Z));E p(p(Z,y),p(y,Z));E m(p(X,p(x,Y)))", "0", "l(x)", "1", "p(x,y)", "2", "p(x,p(y,x))", "3", "p(x,p(y,z))", "4", "p(p(x,y),p(y,x))", "5", "m(p(x,p(y,z)))")
	// Of several instances.
	world := "E;E p(x,y):E x&E y;E l(x);E p(x,x);E p(x,p(y,x));E l(x):E x;E i;E p(y,x):E x&E y;E p(x,l(y)):E y"
	checkForms(t, world, "0(1,1)", "p(l(x),l(y))", "0(2,2)", "p(p(x,x),p(y,y))", "0(2,4(2))", "p(p(x,x),l(p(y,y)))", "0(5,3)", "p(i,p(x,p(y,x)))", "0(3,5)", "p(p(x,p(y,x)),i)", "0(3,2)", "p(p(x,p(y,x)),p(z,z))", "0(2,3)", "p(p(x,x),p(y,p(z,y)))",
		"0(0(1,1),1)", "p(p(l(x),l(y)),l(z))", "0(1,0(1,1))", "p(l(x),p(l(y),l(z)))", "6(1,2)", "p(p(x,x),l(y))", "6(2,1)", "p(l(x),p(y,y))", "4(4(4(3)))", "l(l(l(p(x,p(y,x)))))", "7(3)", "p(x,l(p(y,p(z,y))))", "7(1)", "p(x,l(l(y)))", "0(7(1),1)", "p(p(x,l(l(y))),l(z))")
	// One variable in several needs, for which the instances say something each.
	checkForms(t, "E;E l(x):E x&E x;E p(x,l(y));E p(l(x),y);E p(x,x);E p(x,y):E x&E p(x,y)&E y;E i;E m(x):E p(x,x)&E p(x,l(l(i)));E p(x,y)", "0(1,2)", "l(p(l(x),l(y)))", "0(1,3)", "l(p(l(x),l(x)))", "0(2,3)", "l(p(l(x),l(x)))", "0(0(1,2),0(3,3))", "l(l(p(l(x),l(x))))", "0(0(1,2),1)", "",
		"4(5,3,5)", "p(i,i)", "4(5,1,5)", "", "4(5,1,0(1,3))", "p(i,l(p(l(x),l(x))))", "4(0(5,5),3,0(5,5))", "p(l(i),l(i))", "4(0(5,5),2,5)", "p(l(i),i)", "4(0(5,5),3,5)", "", "6(3,1)", "m(x)", "6(7,3)", "m(l(l(i)))", "6(3,2)", "m(l(x))")
	// What is bound to what may come up late.
	checkForms(t, "E;E p(x,p(y,z)):E p(x,y)&E p(y,z)&E z;E p(x,x);E i;E b;E p(x,y):E x;E m(p(x,y)):E p(y,x)&E y;E l(x)", "0(1,1,2)", "p(i,p(i,i))", "0(1,1,6)", "p(l(x),p(l(x),l(x)))", "0(1,4(2),3)", "p(i,p(i,b))", "0(4(2),1,3)", "p(i,p(b,b))", "0(4(2),4(3),6)", "p(i,p(b,l(x)))", "0(4(6),1,6)", "p(l(x),p(l(y),l(y)))", "5(1,2)", "m(p(i,i))", "5(4(6),6)", "m(p(x,l(y)))", "5(4(3),2)", "")
}

func TestFormsWithMostVariables(t *testing.T) {
	checkForms(t, "E;E p(x,p(y,z));E p(p(x,y),p(X,Y));E p(p(x,y),p(X,x));E p(p(X,Y),p(Z,z)):E p(X,p(Y,Z));E l(p(p(x,y),p(z,X)));E m(p(p(x,y),p(z,z)))", "0", "p(x,p(y,z))", "1", "", "2", "p(p(x,y),p(z,x))", "3(0)", "", "4", "", "5", "m(p(p(x,y),p(z,z)))")
	world := "E;E p(x,y):E x&E y;E l(x);E p(x,x);E p(x,y);E i;E l(x):E p(p(x,x),p(x,x));E p(p(X,Y),p(Z,z));E p(x,y):E p(x,p(y,p(x,y)));E p(X,p(Y,p(Z,z)));E p(x,p(y,p(z,u)))"
	checkForms(t, world, "0(1,0(1,1))", "p(l(x),p(l(y),l(z)))", "0(0(1,1),0(1,1))", "", "0(1,0(1,0(1,1)))", "", "0(1,0(1,0(1,4)))", "p(l(x),p(l(y),p(l(z),i)))", "0(3,3)", "", "0(3,4)", "p(p(x,y),i)", "0(2,3)", "p(p(x,x),p(y,z))", "0(2,2)", "p(p(x,x),p(y,y))", "0(3,1)", "p(p(x,y),l(z))")
	// More than three variables of other instances may be of three types.
	checkForms(t, world, "5(6)", "l(x)", "7(8)", "p(x,y)", "0(5(6),5(6))", "p(l(x),l(y))", "7(9)", "p(x,u)")
}

// typeOfLength returns a type without variables of so many bytes, at least 9.
func typeOfLength(length int) string {
	t := []string{"p(i,i)", "i", "p(p(i,i),i)"}[length%3]
	for len(t) < length {
		t = "l(" + t + ")"
	}
	return t
}

// towerWorld has an instance for each letter of types of i, l and p, so that their dictionaries are the types with other letters.
const towerWorld = "E;E i;E l(x):E x;E p(x,y):E x&E y;E p(x,l(x))"

func towerDict(t string) string { return strings.NewReplacer("i", "0", "l", "1", "p", "2").Replace(t) }

func TestLongestForms(t *testing.T) {
	for length := 9; length <= 70; length++ {
		s := typeOfLength(length)
		want := s
		if len(s) != length {
			t.Fatalf("%q has not %d bytes", s, length)
		}
		if length > 60 {
			want = ""
		}
		checkForm(t, towerWorld, towerDict(s), want)
	}
	// With variables, and with brackets of many types that end at once.
	for _, c := range []struct {
		a, b int
		ok   bool
	}{{8, 5, true}, {5, 8, true}, {0, 13, true}, {8, 6, false}, {9, 7, false}, {0, 14, false}} {
		s := "p(" + nested(c.a) + ",p(" + nested(c.b) + ",p(x,l(x))))"
		want := ""
		if c.ok {
			want = s
		}
		checkForm(t, towerWorld, "2("+towerDict(nested(c.a))+",2("+towerDict(nested(c.b))+",3))", want)
	}
	for _, c := range []struct {
		a, b int
		ok   bool
	}{{28, 28, true}, {25, 31, true}, {28, 29, false}, {31, 28, false}, {19, 37, true}, {57, 9, false}, {47, 9, true}, {48, 9, false}} {
		s := "p(" + typeOfLength(c.a) + "," + typeOfLength(c.b) + ")"
		want := ""
		if c.ok {
			want = s
		}
		checkForm(t, towerWorld, towerDict(s), want)
	}
}

func TestFormsOfMostDigits(t *testing.T) {
	for count := 1; count <= 100; count++ {
		d, want := digitsOf(count), "i"
		if count > 50 {
			want = ""
		}
		if impl.SizeOfDict(d) != count {
			t.Fatalf("%q has not %d digits", d, count)
		}
		checkForm(t, selfWorld, d, want)
		if count > 2 {
			checkForm(t, selfWorld, "1(2,"+digitsOf(count-2)+")", want)
			checkForm(t, selfWorld, "1("+digitsOf(count/2)+","+digitsOf(count-1-count/2)+")", want)
		}
	}
	checkForm(t, selfWorld, longDict(1200), "")
	// In many parts at once: 13 digits, 40, 50 and 51.
	four := "0(3,3,3)"
	thirteen := strings.ReplaceAll(four, "3", four)
	last := "0(" + thirteen + "," + thirteen + ",0(" + thirteen + "," + four
	checkForms(t, "E;E i:E i&E i&E i;E i:E i;E i:E i&E i;E i", thirteen, "i", strings.ReplaceAll(thirteen, four, thirteen), "i", last+",0(3,3,1(3))))", "i", last+",0(3,1(3),1(3))))", "")
}

// TestFormsOfBigNeeds is about dictionaries whose needs would be longer than types may be: FormOf does not look at that.
func TestFormsOfBigNeeds(t *testing.T) {
	world := "E;E l(x):E l(p(x,x));E l(x);E l(p(x,x)):E l(x);E l(i)"
	w := validWorld(t, world)
	for count := 1; count <= 49; count++ {
		d := strings.Repeat("0(", count) + "1" + strings.Repeat(")", count)
		checkForm(t, world, d, "l(x)")
		want := "ok"
		if count > 3 {
			want = "big"
		}
		if got := impl.CheckDict(w, needOf("E l(x)"), d); got != want {
			t.Errorf("CheckDict(%q) = %q, want %q", d, got, want)
		}
	}
	// They get longer and shorter again.
	for count := 1; count <= 24; count++ {
		open, shut := strings.Repeat("0(", count)+strings.Repeat("2(", count), strings.Repeat(")", 2*count)
		checkForms(t, world, open+"1"+shut, "l(x)", open+"3"+shut, "l(i)", strings.Replace(open, "2(", "0(", 1)+"3"+shut, "")
	}
	// Types that get twice as long with each instance are too long soon.
	checkForms(t, world, "2(2(3))", "l(p(p(i,i),p(i,i)))", "2(2(2(3)))", "l(p(p(p(i,i),p(i,i)),p(p(i,i),p(i,i))))", "2(2(2(2(3))))", "", strings.Repeat("2(", 49)+"1"+strings.Repeat(")", 49), "", strings.Repeat("2(", 49)+"3"+strings.Repeat(")", 49), "")
}

// TestFormsOfTypesThatDouble compares types that would have up to 2^50 letters.
func TestFormsOfTypesThatDouble(t *testing.T) {
	world := "E;E p(x,y):E p(p(x,x),p(y,y));E p(x,x);E p(x,y);E p(x,p(y,y)):E p(p(x,x),y);E p(x,y):E p(p(y,y),p(x,x));E p(i,x);E p(x,l(x))"
	for count := 1; count <= 49; count++ {
		for _, k := range []string{"0", "4"} {
			open, shut := strings.Repeat(k+"(", count), strings.Repeat(")", count)
			checkForms(t, world, open+"1"+shut, "p(x,x)", open+"2"+shut, "p(x,y)", open+"5"+shut, "", open+"6"+shut, "")
		}
	}
	three := "E;E l(x):E p(x,x)&E l(p(x,x))&E p(p(x,x),p(x,x));E p(x,y);E l(x);E p(x,y):E p(y,x)&E p(x,p(y,y));E p(x,p(x,y))"
	d, e := "2", "1"
	for range 12 {
		d, e = "0(1,"+d+",1)", "3(1,"+e+")"
		checkForms(t, three, d, "l(x)", e, "p(x,y)")
	}
}

// TestVariablesThatWouldStandInWhatTheyAreBoundTo has dictionaries that are right for no type, since this would have no end.
func TestVariablesThatWouldStandInWhatTheyAreBoundTo(t *testing.T) {
	checkForms(t, "E;E p(x,x);E p(x,l(x));E p(l(x),x);E l(x):E p(x,x);E m(x):E p(x,l(x));E p(x,y):E p(x,l(y))&E p(y,x);E p(x,y)", "3(0)", "l(x)", "3(1)", "", "3(2)", "", "4(0)", "", "4(1)", "m(x)", "4(2)", "", "3(6)", "l(x)", "5(0,0)", "", "5(0,6)", "p(l(x),x)", "5(6,0)", "p(x,x)", "5(6,1)", "p(l(x),x)", "5(1,6)", "p(x,x)", "5(1,1)", "", "5(2,1)", "", "5(2,2)", "", "5(2,6)", "p(l(l(x)),x)")
	// In instances that lie deep, and several such variables that are to be the same.
	world := "E;E p(x,y):E p(x,y)&E p(y,l(x));E p(x,x);E l(x):E p(x,l(x))&E p(x,l(l(x)));E p(x,y);E p(x,y):E p(x,l(x))&E p(y,l(y))&E p(x,y);E m(x):E p(i,l(i))&E p(x,x);E p(x,l(x))"
	checkForms(t, world, "0(1,1)", "", "0(0(3,1),1)", "p(x,l(x))", "0(0(3,3),1)", "p(x,l(x))", "0(0(1,3),1)", "", "2(1,1)", "", "2(1,3)", "", "2(3,1)", "", "2(3,3)", "l(x)", "2(6,3)", "l(x)", "2(3,6)", "", "4(1,1,1)", "", "4(6,6,1)", "p(x,x)", "4(6,6,6)", "p(x,l(x))", "4(3,1,1)", "", "5(1,1)", "", "5(6,1)", "m(x)", "5(3,6)", "")
	deep := "1"
	for range 15 {
		deep = "0(" + deep + ",3)"
		checkForm(t, world, deep, "p(x,x)")
		checkForm(t, world, "0("+deep+",1)", "")
	}
}

// manyLetters has letters for variables that no type has.
func manyLetters() string {
	var letters []byte
	for b := 128; b < 256; b++ {
		letters = append(letters, byte(b))
	}
	return "ABCDEFGHIJKLMNOPQRSTUVW" + string(letters)
}

// formByLetters gives each instance in a dictionary letters of its own, and makes a row of their types and one of
// the needs for which they are the same. It returns the type that this makes, however long, with all its variables.
func formByLetters(w impl.World, d string) (string, string, bool) {
	letters := manyLetters()
	free := letters[1:]
	var types, needs []string
	var collect func(class, t, d string) bool
	collect = func(class, t, d string) bool {
		k, parts := splitDict(d)
		if k >= len(w.Instances) || class != "" && w.Instances[k].Class != class || len(w.Instances[k].Needs) != len(parts) {
			return false
		}
		i := w.Instances[k]
		var pairs []string
		for _, v := range impl.VarsOf(i.Type) {
			pairs = append(pairs, string(v), free[:1])
			free = free[1:]
		}
		own := strings.NewReplacer(pairs...)
		types, needs = append(types, own.Replace(i.Type)), append(needs, t)
		for n, p := range parts {
			if !collect(i.Needs[n].Class, own.Replace(i.Needs[n].Type), p) {
				return false
			}
		}
		return true
	}
	if !collect("", letters[:1], d) {
		return "", "", false
	}
	found, ok := unifyTexts("row("+strings.Join(types, ",")+")", "row("+strings.Join(needs, ",")+")", letters)
	if !ok {
		return "", "", false
	}
	return inOrder(found[letters[:1]], letters)
}

// inOrder gives the variables of a type letters in the order in which they come, x, y and z first.
func inOrder(t, letters string) (string, string, bool) {
	made, vars := "", ""
	for _, b := range []byte(t) {
		c := string([]byte{b})
		if strings.Contains(letters, c) {
			if !strings.Contains(vars, c) {
				vars += c
			}
			c = "xyzABCDEFGHIJKLMNOPQRSTUVW"[strings.Index(vars, c):][:1]
		}
		made += c
	}
	return made, vars, true
}

// checkFormByLetters returns what FormOf has to return, or why it has to return nothing.
func checkFormByLetters(t *testing.T, w impl.World, d string) string {
	t.Helper()
	raw, vars, ok := formByLetters(w, d)
	want, why := raw, raw
	switch {
	case !ok:
		want, why = "", "no type"
	case len(vars) > 3:
		want, why = "", "too many variables"
	case len(raw) > 60:
		want, why = "", "too long"
	}
	if got, ok := impl.FormOf(w, d); got != want || ok != (want != "") {
		t.Fatalf("FormOf(%q, %q) = %q, %v, want %q (%s)", impl.FormatWorld(w), d, got, ok, want, why)
	}
	return why
}

func TestFormsInManyWorlds(t *testing.T) {
	r := rand.New(rand.NewSource(11))
	counts := map[string]int{}
	for k := range 15000 {
		w := searchedWorld(r)
		switch k % 5 {
		case 1:
			w = fullWorld(r)
		case 2:
			w = someWorld(r, "xyib")
		case 3:
			w = openWorld(r)
		case 4:
			w = worldOf(towerWorld)
		}
		d := someDict(r, w, w.Classes[r.Intn(len(w.Classes))].Name, r.Intn(8))
		if k%5 == 4 && r.Intn(2) == 0 {
			d = towerDict(someType(r, "i", 80))
		}
		// There are no letters for dictionaries with more variables.
		if size := impl.SizeOfDict(d); size < 0 || size > 50 || size > 25 && k%5 != 4 {
			continue
		}
		why := checkFormByLetters(t, w, d)
		if why[0] != 'n' && why[0] != 't' {
			why = impl.VarsOf(why)
		}
		counts[why]++
	}
	for _, why := range []string{"no type", "too many variables", "too long", "", "x", "xy", "xyz"} {
		if counts[why] < 20 {
			t.Errorf("of the forms of this test, %d are %q: %v", counts[why], why, counts)
		}
	}
}

// openWorld returns a world whose instances have many variables, and needs that say something of them.
func openWorld(r *rand.Rand) impl.World {
	w := impl.World{Classes: classesOf("E")}
	for _, s := range []string{"p(x,y)", "p(x,x)", "l(x)", "p(x,l(y))", "p(l(x),p(y,Z))", "p(x,p(y,x))", "m(x)", "p(x,y)", "i", "p(Z,z)"} {
		i := impl.Instance{Need: impl.Need{Class: "E", Type: s}}
		vars := append(strings.Split(impl.VarsOf(s), ""), "i")
		for range r.Intn(4) {
			v, other := vars[0], someOf(r, vars...)
			i.Needs = append(i.Needs, impl.Need{Class: "E", Type: someOf(r, v, other, "l("+v+")", "p("+v+","+other+")", "p("+v+",l("+other+"))", "p("+v+",p("+other+","+v+"))")})
		}
		w.Instances = append(w.Instances, i)
	}
	r.Shuffle(len(w.Instances), func(a, b int) { w.Instances[a], w.Instances[b] = w.Instances[b], w.Instances[a] })
	return w
}

// allDicts returns all dictionaries of at most a size of some instances.
func allDicts(instances string, size int) []string {
	bySize := make([][]string, size+1)
	var all []string
	for n := 1; n <= size; n++ {
		for _, i := range strings.Split(instances, "") {
			if n == 1 {
				bySize[n] = append(bySize[n], i)
			}
			for a := 1; a < n; a++ {
				for _, first := range bySize[a] {
					if a == n-1 {
						bySize[n] = append(bySize[n], i+"("+first+")")
						continue
					}
					for _, second := range bySize[n-1-a] {
						bySize[n] = append(bySize[n], i+"("+first+","+second+")")
					}
				}
			}
		}
		all = append(all, bySize[n]...)
	}
	return all
}

// TestFormsAreMostGeneral holds for all small dictionaries and types that a dictionary is right for just those of its form.
func TestFormsAreMostGeneral(t *testing.T) {
	types := typesFrom("xib", "l", 9)
	for _, world := range []string{
		"E;E i;E l(x):E x;E p(x,y):E x&E y;E p(x,x);E l(y)",
		"E O<E;O p(x,y):E x;E l(x):O p(x,l(x));E p(x,y):O p(y,x)&E x;E l(x);O p(x,l(y))",
		"E;E l(x):E p(x,l(x));E p(x,x);E p(x,l(y)):E x;E p(x,y):E p(y,x);E l(x):E p(x,i)&E p(i,x)",
	} {
		w := validWorld(t, world)
		right := 0
		for _, d := range allDicts("01234", 4) {
			form := checkFormByLetters(t, w, d)
			for _, s := range types {
				n := impl.Need{Class: w.Instances[d[0]-'0'].Class, Type: s}
				_, of := formByTexts(form, s)
				if answer := impl.CheckDict(w, n, d); of != (answer == "ok") {
					t.Fatalf("the form of %q is %q, but CheckDict(%q) = %q", d, form, s, answer)
				}
				if of {
					right++
				}
			}
		}
		if right < 20 {
			t.Errorf("in the world %q, %d dictionaries are right for a type", world, right)
		}
	}
}

func TestFormsOfDictionariesThatAreFound(t *testing.T) {
	r := rand.New(rand.NewSource(12))
	found := 0
	for range 3000 {
		w, s := fullWorld(r), highType(r, someOf(r, "i", "b", "x"), r.Intn(7))
		n := impl.Need{Class: "E", Type: s}
		d, why := impl.FindDict(w, n)
		if why != "" || len(d) > 1200 || impl.SizeOfDict(d) > 50 {
			continue
		}
		form := checkFormByLetters(t, w, d)
		if form == "too many variables" {
			continue
		}
		found++
		if _, of := formByTexts(form, s); !of {
			t.Fatalf("FormOf(%q, %q) = %q, but it is right for %q", impl.FormatWorld(w), d, form, s)
		}
	}
	if found < 200 {
		t.Errorf("%d searches of this test find a dictionary", found)
	}
}

// TestFormsAtTheSameTime has calls in several goroutines, none of which may count the variables of another one.
func TestFormsAtTheSameTime(t *testing.T) {
	w := validWorld(t, "E;E p(x,y):E x&E y;E l(x);E p(x,x);E p(Z,p(y,x));E p(p(x,y),p(X,Y))")
	forms := map[string]string{"1": "l(x)", "2": "p(x,x)", "3": "p(x,p(y,z))", "0(1,1)": "p(l(x),l(y))", "0(1,0(2,1))": "p(l(x),p(p(y,y),l(z)))", "4": "", "0(3,1)": ""}
	var group sync.WaitGroup
	for range 16 {
		group.Add(1)
		go func() {
			defer group.Done()
			for range 200 {
				for d, want := range forms {
					if got, ok := impl.FormOf(w, d); got != want || ok != (want != "") {
						t.Errorf("FormOf(%q) = %q, %v, want %q", d, got, ok, want)
					}
				}
			}
		}()
	}
	group.Wait()
}

func TestListsOfDictionariesAreNewMemory(t *testing.T) {
	d := "1(0,2(3,0))"
	first, second := impl.PartsOfDict(d), impl.PartsOfDict(d)
	for k := range first[:cap(first)] {
		first[:cap(first)][k] = "changed"
	}
	if want := []string{"0", "2(3,0)"}; !slices.Equal(second, want) || !slices.Equal(impl.PartsOfDict(d), want) {
		t.Errorf("results of PartsOfDict share memory: %q", second)
	}
	list, other := impl.InstancesIn(d), impl.InstancesIn(d)
	for k := range list[:cap(list)] {
		list[:cap(list)][k] = -7
	}
	if want := []int{0, 1, 2, 3}; !slices.Equal(other, want) || !slices.Equal(impl.InstancesIn(d), want) {
		t.Errorf("results of InstancesIn share memory: %v", other)
	}
}

func TestDictionariesLeaveArgumentsAsTheyAre(t *testing.T) {
	room := []string{"0", "2(3,0)", "kept", "kept"}
	impl.MakeDict(1, room[:2])
	impl.MakeDict(1, room[:1])
	if !slices.Equal(room, []string{"0", "2(3,0)", "kept", "kept"}) {
		t.Errorf("MakeDict changed its argument: %q", room)
	}
	for _, s := range append(worldTexts(), wrongWorld, towerWorld, selfWorld, "O E", "E;E x", "A B C D E;A i") {
		w, same := withRoom(worldOf(s)), withRoom(worldOf(s))
		for _, d := range []string{"0", "1(0)", "1(0,0)", "2(3)", "0(0,0,0)", "9", "x"} {
			for _, text := range []string{"E i", "E l(i)", "E p(i,i)", "O x", "D p(p(i,i),p(i,i))", "A q"} {
				impl.CheckDict(w, needOf(text), d)
			}
			impl.FormOf(w, d)
		}
		if !reflect.DeepEqual(behind(w), behind(same)) {
			t.Errorf("the world %q became %q", s, w)
		}
	}
}

// FuzzTextsOfDictionaries runs its seeds in each test run.
func FuzzTextsOfDictionaries(f *testing.F) {
	for _, s := range textsThatAreNoDicts() {
		f.Add(s)
	}
	for _, c := range dictsWithFacts() {
		f.Add(c.text)
	}
	w := worldOf(wrongWorld)
	f.Fuzz(func(t *testing.T, s string) {
		checkDictText(t, s)
		impl.FormOf(w, s)
		if got := impl.CheckDict(w, needOf("E p(i,l(i))"), s); (got == "wrong") != !impl.DictValid(s) {
			t.Errorf("CheckDict(%q) = %q", s, got)
		}
	})
}
