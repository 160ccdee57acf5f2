package impl

import "strings"

// MaxType limits types.
const MaxType = 60

// variableLetters has all variables in the order in which VarsOf returns them.
const variableLetters = "XYZxyz"

// A node is a type that was read: a *constant, a *variable or a *construct.
type node interface {
	head() byte
	text() string
	parts() []node
}

type constant struct {
	letter byte
}

type variable struct {
	letter byte
}

type construct struct {
	letter byte
	inner  []node
}

func (c *constant) head() byte { return c.letter }

func (c *constant) text() string { return letterText(c.letter) }

func (c *constant) parts() []node { return nil }

func (v *variable) head() byte { return v.letter }

func (v *variable) text() string { return letterText(v.letter) }

func (v *variable) parts() []node { return nil }

func (c *construct) head() byte { return c.letter }

func (c *construct) text() string {
	return joinParts(letterText(c.letter), partTexts(c))
}

func (c *construct) parts() []node { return c.inner }

func letterText(letter byte) string { return string(rune(letter)) }

func partTexts(n node) []string {
	var list []string
	for _, p := range n.parts() {
		list = append(list, p.text())
	}
	return list
}

// joinParts puts a text together without a look at whether it is a type.
func joinParts(head string, parts []string) string {
	if len(parts) == 0 {
		return head
	}
	return head + "(" + strings.Join(parts, ",") + ")"
}

// partsNeeded returns how many parts a letter has, -1 if no type begins with it.
func partsNeeded(letter byte) int {
	switch letter {
	case 'i', 'b', 'u', 'x', 'y', 'z', 'X', 'Y', 'Z':
		return 0
	case 'l', 'm':
		return 1
	case 'p':
		return 2
	}
	return -1
}

func isVariable(letter byte) bool {
	return strings.IndexByte(variableLetters, letter) >= 0
}

// notType is what a typeReader panics with.
type notType struct{}

// A typeReader reads a type from the left. Its methods panic where nothing
// fits, so that the grammar stands there without tests at each step.
type typeReader struct {
	rest string
}

func (r *typeReader) next() byte {
	if r.rest == "" {
		panic(notType{})
	}
	letter := r.rest[0]
	r.rest = r.rest[1:]
	return letter
}

func (r *typeReader) skip(letter byte) {
	if r.next() != letter {
		panic(notType{})
	}
}

func (r *typeReader) read() node {
	letter := r.next()
	count := partsNeeded(letter)
	switch {
	case count > 0:
		return &construct{letter: letter, inner: r.readParts(count)}
	case isVariable(letter):
		return &variable{letter: letter}
	case count == 0:
		return &constant{letter: letter}
	}
	panic(notType{})
}

func (r *typeReader) readParts(count int) []node {
	r.skip('(')
	list := []node{r.read()}
	for len(list) < count {
		r.skip(',')
		list = append(list, r.read())
	}
	r.skip(')')
	return list
}

// readType looks at the length first: it also limits how deep the reader recurs.
func readType(t string) (root node, ok bool) {
	if len(t) > MaxType {
		return nil, false
	}
	defer func() {
		if recover() != nil {
			root, ok = nil, false
		}
	}()
	r := &typeReader{rest: t}
	root = r.read()
	if r.rest != "" {
		return nil, false
	}
	return root, true
}

func nodeSize(n node) int {
	size := 1
	for _, p := range n.parts() {
		size += nodeSize(p)
	}
	return size
}

func nodeDepth(n node) int {
	depth := 0
	for _, p := range n.parts() {
		depth = max(depth, nodeDepth(p)+1)
	}
	return depth
}

// replaceVariables leaves the node as it is, since others may hold it.
func replaceVariables(n node, replace func(v *variable) node) node {
	switch x := n.(type) {
	case *variable:
		return replace(x)
	case *construct:
		var inner []node
		for _, p := range x.inner {
			inner = append(inner, replaceVariables(p, replace))
		}
		return &construct{letter: x.letter, inner: inner}
	}
	return n
}

func capitalVariable(v *variable) node {
	return &variable{letter: capitalOf(v.letter)}
}

func capitalOf(letter byte) byte {
	if 'x' <= letter && letter <= 'z' {
		return letter - 'x' + 'X'
	}
	return letter
}

// TypeValid reports whether a text is a type.
func TypeValid(t string) bool {
	_, ok := readType(t)
	return ok
}

// HeadOf returns the letter with which a type begins, the empty string if it is none.
func HeadOf(t string) string {
	if !TypeValid(t) {
		return ""
	}
	return letterText(t[0])
}

// PartsOf returns the types between the brackets of a type, an empty slice if it is none.
func PartsOf(t string) []string {
	root, ok := readType(t)
	if !ok {
		return nil
	}
	return partTexts(root)
}

// MakeType returns the type with a letter and parts, false if there is none.
func MakeType(head string, parts []string) (string, bool) {
	if len(head) != 1 || partsNeeded(head[0]) != len(parts) {
		return "", false
	}
	// Each part is looked at by itself, since what is no type might fit once it is joined.
	for _, p := range parts {
		if !TypeValid(p) {
			return "", false
		}
	}
	t := joinParts(head, parts)
	if len(t) > MaxType {
		return "", false
	}
	return t, true
}

// VarsOf returns the variables of a type, each once, capital letters first.
func VarsOf(t string) string {
	if !TypeValid(t) {
		return ""
	}
	vars := ""
	for _, v := range variableLetters {
		if countLetter(t, v) > 0 {
			vars += string(v)
		}
	}
	return vars
}

func countLetter(text string, letter rune) int {
	count := 0
	for _, c := range text {
		if c == letter {
			count++
		}
	}
	return count
}

// IsGround reports whether a text is a type without variables.
func IsGround(t string) bool {
	return TypeValid(t) && VarsOf(t) == ""
}

// SizeOf returns how many letters a type has, -1 if it is none.
func SizeOf(t string) int {
	root, ok := readType(t)
	if !ok {
		return -1
	}
	return nodeSize(root)
}

// DepthOf returns how many constructors of a type lie within each other, -1 if it is none.
func DepthOf(t string) int {
	root, ok := readType(t)
	if !ok {
		return -1
	}
	return nodeDepth(root)
}

// CountVar returns how often a variable stands in a type, -1 if there is no such type or variable.
func CountVar(t string, v string) int {
	if !TypeValid(t) || len(v) != 1 || !isVariable(v[0]) {
		return -1
	}
	return countLetter(t, rune(v[0]))
}

// RenameType returns a type with capital variables in place of small ones, the empty string if it is none.
func RenameType(t string) string {
	root, ok := readType(t)
	if !ok {
		return ""
	}
	return replaceVariables(root, capitalVariable).text()
}
