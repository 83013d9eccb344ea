package impl

import (
	"iter"
	"maps"
	"slices"
	"strconv"
	"strings"
)

// MaxItems limits items.
const MaxItems = 16

// A node is one item of a forest. A root has no node above it, so that going
// up ends by itself; only the lists of links have roots that point to themselves.
type node struct {
	number int
	above  *node
}

// wayUp yields the nodes from this one to its root. On a ring it never ends:
// whoever is not sure that there is none has to stop it.
func (n *node) wayUp() iter.Seq[*node] {
	return func(yield func(*node) bool) {
		for at := n; at != nil; at = at.above {
			if !yield(at) {
				return
			}
		}
	}
}

// root returns the last node on the way up.
func (n *node) root() *node {
	last := n
	for at := range n.wayUp() {
		last = at
	}
	return last
}

// depth returns how many links lie between a node and its root.
func (n *node) depth() int {
	links := 0
	for at := range n.wayUp() {
		if at.above != nil {
			links++
		}
	}
	return links
}

// reachesRoot reports whether the way up ends. A way of more nodes than there
// are visits one of them twice, and goes around forever.
func (n *node) reachesRoot(count int) bool {
	visited := 0
	for range n.wayUp() {
		visited++
		if visited > count {
			return false
		}
	}
	return true
}

// link returns the number of the node above, or its own number if it is a root.
func (n *node) link() int {
	if n.above == nil {
		return n.number
	}
	return n.above.number
}

// nodesOf returns the nodes of a valid forest, and none if it is not valid.
func nodesOf(up []int) []node {
	if len(up) < 1 || len(up) > MaxItems {
		return nil
	}
	nodes := make([]node, len(up))
	for i, link := range up {
		if !hasItem(up, link) {
			return nil
		}
		nodes[i].number = i
		if link != i {
			nodes[i].above = &nodes[link]
		}
	}
	for i := range nodes {
		if !nodes[i].reachesRoot(len(nodes)) {
			return nil
		}
	}
	return nodes
}

// nodeOf returns the node of an item, and nil if the forest is not valid or has no such item.
func nodeOf(up []int, item int) *node {
	nodes := nodesOf(up)
	if nodes == nil || !hasItem(up, item) {
		return nil
	}
	return &nodes[item]
}

// hasItem reports whether there is an item of this number.
func hasItem(up []int, item int) bool {
	return item >= 0 && item < len(up)
}

// classesByRoot returns, for the number of each root, the items of its class in ascending order.
func classesByRoot(nodes []node) map[int][]int {
	classes := map[int][]int{}
	for i := range nodes {
		root := nodes[i].root().number
		classes[root] = append(classes[root], i)
	}
	return classes
}

// sameOf reports whether both forests are valid and what is told of them is
// alike in every place.
func sameOf[T any](a, b []int, tell func(up []int) ([]T, bool), alike func(T, T) bool) bool {
	toldOfA, okA := tell(a)
	toldOfB, okB := tell(b)
	return okA && okB && slices.EqualFunc(toldOfA, toldOfB, alike)
}

// ForestValid reports whether links are a forest.
func ForestValid(up []int) bool { return nodesOf(up) != nil }

// NewForest returns a forest of items that stand alone.
func NewForest(n int) ([]int, bool) {
	if n < 1 || n > MaxItems {
		return nil, false
	}
	up := make([]int, n)
	for i := range up {
		up[i] = i
	}
	return up, true
}

// FormatForest returns the text of a forest.
func FormatForest(up []int) string {
	if !ForestValid(up) {
		return ""
	}
	words := make([]string, len(up))
	for i, link := range up {
		words[i] = linkWord(link, i)
	}
	return strings.Join(words, " ")
}

// linkWord returns the word of an item's link.
func linkWord(link int, item int) string {
	if link == item {
		return "."
	}
	return strconv.Itoa(link)
}

// ParseForest parses the text of a forest.
func ParseForest(text string) ([]int, bool) {
	// One word more than there may be is enough to tell that they are too many.
	words := strings.SplitN(text, " ", MaxItems+1)
	up := make([]int, len(words))
	for i, word := range words {
		link, ok := parseLink(word, i)
		if !ok {
			return nil, false
		}
		up[i] = link
	}
	// Writing it again rejects what can be read but is not how it is written:
	// zeros ahead, signs, a root with its own number, and what is no forest.
	if FormatForest(up) != text {
		return nil, false
	}
	return up, true
}

// parseLink reads the word of an item's link.
func parseLink(word string, item int) (int, bool) {
	if word == "." {
		return item, true
	}
	link, err := strconv.Atoi(word)
	return link, err == nil
}

// RootOf returns the root of an item.
func RootOf(up []int, item int) int {
	from := nodeOf(up, item)
	if from == nil {
		return -1
	}
	return from.root().number
}

// WayUp returns the items from one to its root.
func WayUp(up []int, item int) ([]int, bool) {
	from := nodeOf(up, item)
	if from == nil {
		return nil, false
	}
	var way []int
	for at := range from.wayUp() {
		way = append(way, at.number)
	}
	return way, true
}

// Together reports whether two items have the same root.
func Together(up []int, a int, b int) bool {
	root := RootOf(up, a)
	return root >= 0 && root == RootOf(up, b)
}

// ClassesOf returns the items of each class, in order.
func ClassesOf(up []int) ([][]int, bool) {
	nodes := nodesOf(up)
	if nodes == nil {
		return nil, false
	}
	// A map has no order of its own; no two classes have the same first item.
	byFirst := func(a, b []int) int { return a[0] - b[0] }
	return slices.SortedFunc(maps.Values(classesByRoot(nodes)), byFirst), true
}

// ClassOf returns the items of one class.
func ClassOf(up []int, item int) ([]int, bool) {
	root := RootOf(up, item)
	if root < 0 {
		return nil, false
	}
	return classesByRoot(nodesOf(up))[root], true
}

// DeepestOf returns how many links lie between an item and its root at most.
func DeepestOf(up []int) int {
	deepest := -1
	nodes := nodesOf(up)
	for i := range nodes {
		deepest = max(deepest, nodes[i].depth())
	}
	return deepest
}

// SameClasses reports whether two forests have the same classes.
func SameClasses(a []int, b []int) bool {
	// Classes hold every item once, so forests of the same classes have as many items.
	return sameOf(a, b, ClassesOf, slices.Equal[[]int])
}
