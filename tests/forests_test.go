package tests

import (
	"math"
	"slices"
	"strconv"
	"strings"
	"testing"

	"loop.example/linkedroots/impl"
)

// The expectations for many forests come from this model. It goes up by plain
// indexing, as many times as there are items, and knows nothing of the program.

// rootInModel returns the root of an item, and false if the way up does not end.
func rootInModel(up []int, item int) (int, bool) {
	for range up {
		item = up[item]
	}
	return item, up[item] == item
}

func validInModel(up []int) bool {
	if len(up) < 1 || len(up) > 16 {
		return false
	}
	for _, link := range up {
		if link < 0 || link >= len(up) {
			return false
		}
	}
	for item := range up {
		if _, ok := rootInModel(up, item); !ok {
			return false
		}
	}
	return true
}

func wayInModel(up []int, item int) []int {
	way := []int{item}
	for up[item] != item {
		item = up[item]
		way = append(way, item)
	}
	return way
}

func classInModel(up []int, item int) []int {
	root, _ := rootInModel(up, item)
	var class []int
	for other := range up {
		if r, _ := rootInModel(up, other); r == root {
			class = append(class, other)
		}
	}
	return class
}

func classesInModel(up []int) [][]int {
	var classes [][]int
	for item := range up {
		if class := classInModel(up, item); class[0] == item {
			classes = append(classes, class)
		}
	}
	return classes
}

func deepestInModel(up []int) int {
	deepest := 0
	for item := range up {
		deepest = max(deepest, len(wayInModel(up, item))-1)
	}
	return deepest
}

func textInModel(up []int) string {
	text := ""
	for item, link := range up {
		if item > 0 {
			text += " "
		}
		if link == item {
			text += "."
		} else {
			text += strconv.Itoa(link)
		}
	}
	return text
}

// everyList calls f with every list of so many numbers from least to most.
func everyList(length, least, most int, f func(list []int)) {
	list := make([]int, length)
	var fill func(at int)
	fill = func(at int) {
		if at == length {
			f(list)
			return
		}
		for list[at] = least; list[at] <= most; list[at]++ {
			fill(at + 1)
		}
	}
	fill(0)
}

// chain returns the forest in which each item but the last one has a link to the next one.
func chain(n int) []int {
	up := make([]int, n)
	for i := range up {
		up[i] = min(i+1, n-1)
	}
	return up
}

// star returns the forest in which all items have a link to one of them.
func star(n int, root int) []int {
	up := make([]int, n)
	for i := range up {
		up[i] = root
	}
	return up
}

// alone returns the forest of roots alone.
func alone(n int) []int {
	up := make([]int, n)
	for i := range up {
		up[i] = i
	}
	return up
}

// largeForests are valid forests of 16 items.
func largeForests() [][]int {
	down := make([]int, 16)
	for i := range down {
		down[i] = max(i-1, 0)
	}
	tree := make([]int, 16)
	for i := range tree {
		tree[i] = i / 2
	}
	byRest := make([]int, 16)
	for i := range byRest {
		byRest[i] = 13 + i%3
	}
	byRest[13], byRest[14], byRest[15] = 13, 14, 15
	return [][]int{alone(16), chain(16), down, star(16, 0), star(16, 15), star(16, 7), tree, byRest,
		{15, 0, 1, 15, 3, 4, 15, 6, 7, 9, 9, 10, 12, 12, 13, 15}}
}

func sameLists(a, b [][]int) bool {
	return slices.EqualFunc(a, b, slices.Equal[[]int])
}

// checkValid checks all that is told of one valid forest.
func checkValid(t *testing.T, up []int) {
	t.Helper()
	before := slices.Clone(up)
	if !impl.ForestValid(up) {
		t.Fatalf("ForestValid(%v) = false", up)
	}
	text := impl.FormatForest(up)
	if text != textInModel(up) {
		t.Fatalf("FormatForest(%v) = %q", up, text)
	}
	if parsed, ok := impl.ParseForest(text); !ok || !slices.Equal(parsed, up) {
		t.Fatalf("ParseForest(%q) = %v, %v", text, parsed, ok)
	}
	if classes, ok := impl.ClassesOf(up); !ok || !sameLists(classes, classesInModel(up)) {
		t.Fatalf("ClassesOf(%v) = %v, %v", up, classes, ok)
	}
	if deepest := impl.DeepestOf(up); deepest != deepestInModel(up) {
		t.Fatalf("DeepestOf(%v) = %d", up, deepest)
	}
	if !impl.SameClasses(up, up) {
		t.Fatalf("SameClasses(%v, itself) = false", up)
	}
	for a := range up {
		checkItem(t, up, a)
	}
	for _, item := range []int{-1, len(up), len(up) + 1, 16, math.MinInt, math.MaxInt} {
		checkNoItem(t, up, item)
	}
	if !slices.Equal(up, before) {
		t.Fatalf("%v has become %v", before, up)
	}
}

// checkItem checks all that is told of one item of a valid forest.
func checkItem(t *testing.T, up []int, a int) {
	t.Helper()
	want, _ := rootInModel(up, a)
	if root := impl.RootOf(up, a); root != want {
		t.Fatalf("RootOf(%v, %d) = %d", up, a, root)
	}
	if way, ok := impl.WayUp(up, a); !ok || !slices.Equal(way, wayInModel(up, a)) {
		t.Fatalf("WayUp(%v, %d) = %v, %v", up, a, way, ok)
	}
	if class, ok := impl.ClassOf(up, a); !ok || !slices.Equal(class, classInModel(up, a)) {
		t.Fatalf("ClassOf(%v, %d) = %v, %v", up, a, class, ok)
	}
	for b := range up {
		other, _ := rootInModel(up, b)
		if together := impl.Together(up, a, b); together != (want == other) {
			t.Fatalf("Together(%v, %d, %d) = %v", up, a, b, together)
		}
	}
}

// checkNoItem checks what is told of an item that there is not, or of any item of a forest that is not valid.
func checkNoItem(t *testing.T, up []int, item int) {
	t.Helper()
	if root := impl.RootOf(up, item); root != -1 {
		t.Fatalf("RootOf(%v, %d) = %d", up, item, root)
	}
	if way, ok := impl.WayUp(up, item); len(way) != 0 || ok {
		t.Fatalf("WayUp(%v, %d) = %v, %v", up, item, way, ok)
	}
	if class, ok := impl.ClassOf(up, item); len(class) != 0 || ok {
		t.Fatalf("ClassOf(%v, %d) = %v, %v", up, item, class, ok)
	}
	for other := range len(up) + 1 {
		if impl.Together(up, item, other) || impl.Together(up, other, item) {
			t.Fatalf("Together(%v, %d and %d) = true", up, item, other)
		}
	}
	if impl.Together(up, item, item) {
		t.Fatalf("Together(%v, %d, %d) = true", up, item, item)
	}
}

// checkInvalid checks all that is told of a forest that is not valid.
func checkInvalid(t *testing.T, up []int) {
	t.Helper()
	before := slices.Clone(up)
	if impl.ForestValid(up) {
		t.Fatalf("ForestValid(%v) = true", up)
	}
	if text := impl.FormatForest(up); text != "" {
		t.Fatalf("FormatForest(%v) = %q", up, text)
	}
	if classes, ok := impl.ClassesOf(up); len(classes) != 0 || ok {
		t.Fatalf("ClassesOf(%v) = %v, %v", up, classes, ok)
	}
	if deepest := impl.DeepestOf(up); deepest != -1 {
		t.Fatalf("DeepestOf(%v) = %d", up, deepest)
	}
	valid := alone(min(max(len(up), 1), 16))
	if impl.SameClasses(up, up) || impl.SameClasses(up, valid) || impl.SameClasses(valid, up) {
		t.Fatalf("SameClasses with %v = true", up)
	}
	for item := -1; item <= len(up); item++ {
		checkNoItem(t, up, item)
	}
	if !slices.Equal(up, before) {
		t.Fatalf("%v has become %v", before, up)
	}
}

// TestEverySmallForest looks at all lists of up to 4 links, those past either end included, and of 5 links.
func TestEverySmallForest(t *testing.T) {
	valid := 0
	check := func(up []int) {
		if validInModel(up) {
			valid++
			checkValid(t, up)
		} else {
			checkInvalid(t, up)
		}
	}
	for n := range 5 {
		everyList(n, -1, n, check)
	}
	everyList(5, 0, 4, check)
	// There are (n+1) to the power of n-1 forests of n items.
	if valid != 1+3+16+125+1296 {
		t.Errorf("%d lists are valid forests", valid)
	}
}

func TestLargeForests(t *testing.T) {
	for _, up := range largeForests() {
		if !validInModel(up) {
			t.Fatalf("%v is no forest", up)
		}
		checkValid(t, up)
	}
	for n := 1; n <= 16; n++ {
		checkValid(t, alone(n))
		checkValid(t, chain(n))
		if deepest := impl.DeepestOf(chain(n)); deepest != n-1 {
			t.Errorf("DeepestOf(a chain of %d) = %d", n, deepest)
		}
	}
}

func TestRings(t *testing.T) {
	for length := 2; length <= 16; length++ {
		ring := make([]int, length)
		for i := range ring {
			ring[i] = (i + 1) % length
		}
		checkInvalid(t, ring)
		if length < 16 {
			checkInvalid(t, append(ring, length))   // with a root beside it
			checkInvalid(t, append(ring, length-1)) // with an item that leads into it
		}
	}
	checkInvalid(t, []int{0, 2, 1})
	checkInvalid(t, []int{0, 0, 3, 4, 2})
	lateRing := chain(16)
	lateRing[15] = 14
	checkInvalid(t, lateRing)
}

func TestInvalidForests(t *testing.T) {
	checkInvalid(t, nil)
	checkInvalid(t, []int{})
	for _, n := range []int{17, 18, 1000} {
		checkInvalid(t, alone(n))
		checkInvalid(t, star(n, 0))
	}
	for _, link := range []int{-1, 16, 17, math.MinInt, math.MaxInt} {
		for _, item := range []int{0, 8, 15} {
			up := alone(16)
			up[item] = link
			checkInvalid(t, up)
		}
	}
}

func TestNewForest(t *testing.T) {
	for n := 1; n <= 16; n++ {
		up, ok := impl.NewForest(n)
		if !ok || !slices.Equal(up, alone(n)) {
			t.Errorf("NewForest(%d) = %v, %v", n, up, ok)
		}
	}
	for _, n := range []int{0, -1, 17, math.MinInt, math.MaxInt} {
		if up, ok := impl.NewForest(n); len(up) != 0 || ok {
			t.Errorf("NewForest(%d) = %v, %v", n, up, ok)
		}
	}
}

// TestDocumentExample is the example of chapter 1.
func TestDocumentExample(t *testing.T) {
	up, ok := impl.ParseForest(". 0 1 . 3")
	if !ok || !slices.Equal(up, []int{0, 0, 1, 3, 3}) {
		t.Fatalf("ParseForest = %v, %v", up, ok)
	}
	if way, _ := impl.WayUp(up, 2); !slices.Equal(way, []int{2, 1, 0}) {
		t.Errorf("WayUp = %v", way)
	}
	if classes, _ := impl.ClassesOf(up); !sameLists(classes, [][]int{{0, 1, 2}, {3, 4}}) {
		t.Errorf("ClassesOf = %v", classes)
	}
}

// TestSmallTexts parses every text of up to 5 bytes of those that forests of up to three items are written with, and some more.
func TestSmallTexts(t *testing.T) {
	forests := map[string][]int{}
	for n := 1; n <= 3; n++ {
		everyList(n, 0, n-1, func(up []int) {
			if validInModel(up) {
				forests[textInModel(up)] = slices.Clone(up)
			}
		})
	}
	const letters = " .0123+-"
	for length := range 6 {
		everyList(length, 0, len(letters)-1, func(list []int) {
			text := ""
			for _, at := range list {
				text += letters[at : at+1]
			}
			up, ok := impl.ParseForest(text)
			if want, valid := forests[text]; ok != valid || !slices.Equal(up, want) {
				t.Fatalf("ParseForest(%q) = %v, %v", text, up, ok)
			}
		})
	}
}

func TestTextsOfNoForest(t *testing.T) {
	sixteen := strings.Repeat(". ", 15) + "."
	if up, ok := impl.ParseForest(sixteen); !ok || !slices.Equal(up, alone(16)) {
		t.Errorf("ParseForest(%q) = %v, %v", sixteen, up, ok)
	}
	for _, text := range []string{
		"", " ", "-", "x", "..", "0", "-1", "+1 .", "01 .", "1_0", "0x1 .", "1.0 .", "1e0 .",
		". .\n", "\n. .", ". \t.", ".\t.", ".\n.", ". . ", " . .", ".  .", ". 0 ", ". , .",
		"1 0", "1 2 0", ". 2 1", "0 0", ". 1", ". 2", ". -1", ". -0", ". 00", ". +0", ". ０", ". 0\x00", ". \xff",
		". 18446744073709551616", ". 9223372036854775808", ". 4294967296",
		sixteen + " .", sixteen + " 0", sixteen + " ", " " + sixteen, sixteen + "\n",
		strings.Repeat(". ", 100000) + ".", strings.Repeat("0", 100000), ". " + strings.Repeat("0", 100000),
	} {
		if up, ok := impl.ParseForest(text); len(up) != 0 || ok {
			t.Errorf("ParseForest(%.40q) = %v, %v", text, up, ok)
		}
	}
}

// TestSameClassesOfSmallForests holds all forests of up to 3 items and some of 4 against each other.
func TestSameClassesOfSmallForests(t *testing.T) {
	var lists [][]int
	for n := range 4 {
		everyList(n, 0, max(n-1, 0), func(up []int) { lists = append(lists, slices.Clone(up)) })
	}
	everyList(4, 0, 3, func(up []int) {
		if validInModel(up) {
			lists = append(lists, slices.Clone(up))
		}
	})
	for _, a := range lists {
		for _, b := range lists {
			want := validInModel(a) && validInModel(b) && sameLists(classesInModel(a), classesInModel(b))
			if same := impl.SameClasses(a, b); same != want {
				t.Fatalf("SameClasses(%v, %v) = %v", a, b, same)
			}
		}
	}
}

func TestSameClassesOfLargeForests(t *testing.T) {
	for _, same := range [][]int{chain(16), star(16, 0), star(16, 9), star(16, 15)} {
		if !impl.SameClasses(chain(16), same) || !impl.SameClasses(same, chain(16)) {
			t.Errorf("SameClasses(%v, a chain) = false", same)
		}
	}
	apart := star(16, 0)
	apart[15] = 15
	for _, other := range [][]int{apart, alone(16), star(15, 0), star(17, 0), nil} {
		if impl.SameClasses(chain(16), other) || impl.SameClasses(other, chain(16)) {
			t.Errorf("SameClasses(%v, a chain) = true", other)
		}
	}
	// The lists of one are the beginning of the lists of the other.
	if impl.SameClasses(alone(15), alone(16)) || impl.SameClasses(alone(16), alone(15)) {
		t.Error("SameClasses of 15 and 16 roots = true")
	}
	if impl.SameClasses([]int{0, 0}, []int{0, 0, 0}) || impl.SameClasses([]int{0, 0, 0}, []int{0, 0}) {
		t.Error("SameClasses of 2 and 3 items = true")
	}
}

// overwrite sets all numbers of a list, its unused capacity included.
func overwrite(list []int) {
	list = list[:cap(list)]
	for i := range list {
		list[i] = -7
	}
}

// TestResultsAreNew overwrites results, and looks whether anything else changes.
func TestResultsAreNew(t *testing.T) {
	memory := []int{0, 0, 1, 3, 3, 99, 99}
	up := memory[:5]
	way, _ := impl.WayUp(up, 2)
	class, _ := impl.ClassOf(up, 0)
	classes, _ := impl.ClassesOf(up)
	again, _ := impl.ClassesOf(up)
	overwrite(way)
	overwrite(class)
	overwrite(classes[0])
	if !slices.Equal(classes[1], []int{3, 4}) {
		t.Errorf("classes share memory: %v", classes)
	}
	overwrite(classes[1])
	if !sameLists(again, [][]int{{0, 1, 2}, {3, 4}}) {
		t.Errorf("results share memory: %v", again)
	}
	if !slices.Equal(memory, []int{0, 0, 1, 3, 3, 99, 99}) {
		t.Errorf("the forest has become %v", memory)
	}
	first, _ := impl.NewForest(3)
	overwrite(first)
	parsed, _ := impl.ParseForest(". . .")
	overwrite(parsed)
	if second, _ := impl.NewForest(3); !slices.Equal(second, alone(3)) {
		t.Errorf("NewForest(3) = %v", second)
	}
	if second, _ := impl.ParseForest(". . ."); !slices.Equal(second, alone(3)) {
		t.Errorf("ParseForest = %v", second)
	}
}
