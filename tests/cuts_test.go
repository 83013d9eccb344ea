package tests

import (
	"math"
	"slices"
	"testing"

	"loop.example/linkedroots/impl"
)

// The expectations for many looks come from this model. It writes down the way
// up as a list first, and then sets links by the places in it.

var everyLook = []impl.Look{impl.Bare, impl.Cut, impl.Halve, impl.Split}

// noLooks are numbers that are no ways of looking.
var noLooks = []impl.Look{-1, 4, 5, math.MinInt, math.MaxInt}

// lookInModel returns the forest when one has looked from an item, and how many links were followed.
func lookInModel(up []int, look impl.Look, item int) ([]int, int) {
	way := wayInModel(up, item)
	last := len(way) - 1
	after := slices.Clone(up)
	switch look {
	case impl.Cut:
		for _, at := range way {
			after[at] = way[last]
		}
	case impl.Halve:
		for place := 0; place < last; place += 2 {
			after[way[place]] = way[min(place+2, last)]
		}
		return after, (last + 1) / 2
	case impl.Split:
		for place := 0; place+2 <= last; place++ {
			after[way[place]] = way[place+2]
		}
	}
	return after, last
}

// lookAllInModel returns the forest when one has looked from all items, and how many links were followed.
func lookAllInModel(up []int, look impl.Look, items []int) ([]int, int) {
	followed := 0
	for _, item := range items {
		next, links := lookInModel(up, look, item)
		up = next
		followed += links
	}
	return up, followed
}

// looksInModel returns how many looks it takes until an item is right under its root, -1 if 16 are too few.
func looksInModel(up []int, look impl.Look, item int) int {
	for looks := range 17 {
		if len(wayInModel(up, item)) <= 2 {
			return looks
		}
		up, _ = lookInModel(up, look, item)
	}
	return -1
}

func flatInModel(up []int) []int {
	flat := make([]int, len(up))
	for item := range up {
		flat[item], _ = rootInModel(up, item)
	}
	return flat
}

// mixedItems returns so many of n items, others for each seed.
func mixedItems(n, count, seed int) []int {
	items := make([]int, count)
	for i := range items {
		items[i] = (i*i*(seed+3) + i*7 + seed*5) % n
	}
	return items
}

// checkLook checks one look from one item of a valid forest.
func checkLook(t *testing.T, up []int, look impl.Look, item int) {
	t.Helper()
	want, links := lookInModel(up, look, item)
	after, ok := impl.LookUp(up, look, item)
	if !ok || !slices.Equal(after, want) {
		t.Fatalf("LookUp(%v, %d, %d) = %v, %v, not %v", up, look, item, after, ok, want)
	}
	if steps := impl.StepsUp(up, look, item); steps != links {
		t.Fatalf("StepsUp(%v, %d, %d) = %d, not %d", up, look, item, steps, links)
	}
	if looks := impl.LooksToFlat(up, look, item); looks != looksInModel(up, look, item) {
		t.Fatalf("LooksToFlat(%v, %d, %d) = %d", up, look, item, looks)
	}
	if !impl.SameClasses(up, after) {
		t.Fatalf("LookUp(%v, %d, %d) = %v has other classes", up, look, item, after)
	}
	if impl.RootOf(after, item) != impl.RootOf(up, item) || impl.DeepestOf(after) > impl.DeepestOf(up) {
		t.Fatalf("LookUp(%v, %d, %d) = %v has another root or is deeper", up, look, item, after)
	}
}

// checkLookAll checks looks from items of a valid forest, one behind the other.
func checkLookAll(t *testing.T, up []int, look impl.Look, items []int) {
	t.Helper()
	want, links := lookAllInModel(up, look, items)
	if after, ok := impl.LookAll(up, look, items); !ok || !slices.Equal(after, want) || !impl.SameClasses(up, after) {
		t.Fatalf("LookAll(%v, %d, %v) = %v, %v, not %v", up, look, items, after, ok, want)
	}
	if total := impl.TotalUp(up, look, items); total != links {
		t.Fatalf("TotalUp(%v, %d, %v) = %d, not %d", up, look, items, total, links)
	}
}

// checkLooksOf checks the looks from all items of a valid forest.
func checkLooksOf(t *testing.T, up []int) {
	t.Helper()
	before := slices.Clone(up)
	if flat, ok := impl.FlatForest(up); !ok || !slices.Equal(flat, flatInModel(up)) {
		t.Fatalf("FlatForest(%v) = %v, %v", up, flat, ok)
	}
	for _, look := range everyLook {
		for item := range up {
			checkLook(t, up, look, item)
			checkLookAll(t, up, look, []int{item})
			checkLookAll(t, up, look, []int{item, 0, item})
		}
		for _, none := range []int{-1, len(up), len(up) + 1, 16, math.MinInt, math.MaxInt} {
			checkNoLook(t, up, look, none)
		}
	}
	for _, look := range noLooks {
		for item := range up {
			checkNoLook(t, up, look, item)
		}
		checkNotLookedAll(t, up, look, nil)
	}
	if !slices.Equal(up, before) {
		t.Fatalf("%v has become %v", before, up)
	}
}

// checkNoLook checks that a look from one item is refused, alone and among others.
func checkNoLook(t *testing.T, up []int, look impl.Look, item int) {
	t.Helper()
	if after, ok := impl.LookUp(up, look, item); len(after) != 0 || ok {
		t.Fatalf("LookUp(%v, %d, %d) = %v, %v", up, look, item, after, ok)
	}
	if steps := impl.StepsUp(up, look, item); steps != -1 {
		t.Fatalf("StepsUp(%v, %d, %d) = %d", up, look, item, steps)
	}
	if looks := impl.LooksToFlat(up, look, item); looks != -1 {
		t.Fatalf("LooksToFlat(%v, %d, %d) = %d", up, look, item, looks)
	}
	for _, items := range [][]int{{item}, {item, 0}, {0, item}} {
		checkNotLookedAll(t, up, look, items)
	}
}

// checkNotLookedAll checks that looks from items are refused.
func checkNotLookedAll(t *testing.T, up []int, look impl.Look, items []int) {
	t.Helper()
	if after, ok := impl.LookAll(up, look, items); len(after) != 0 || ok {
		t.Fatalf("LookAll(%v, %d, %v) = %v, %v", up, look, items, after, ok)
	}
	if total := impl.TotalUp(up, look, items); total != -1 {
		t.Fatalf("TotalUp(%v, %d, %v) = %d", up, look, items, total)
	}
}

// checkNoLooks checks that one can't look in a forest that is not valid.
func checkNoLooks(t *testing.T, up []int) {
	t.Helper()
	if flat, ok := impl.FlatForest(up); len(flat) != 0 || ok {
		t.Fatalf("FlatForest(%v) = %v, %v", up, flat, ok)
	}
	for _, look := range everyLook {
		for _, item := range []int{-1, 0, 1, len(up) - 1, len(up)} {
			checkNoLook(t, up, look, item)
		}
		checkNotLookedAll(t, up, look, nil)
	}
}

func TestLooksInEverySmallForest(t *testing.T) {
	for n := range 5 {
		everyList(n, -1, n, func(up []int) {
			if validInModel(up) {
				checkLooksOf(t, up)
			} else {
				checkNoLooks(t, up)
			}
		})
	}
	everyList(5, 0, 4, func(up []int) {
		if validInModel(up) {
			checkLooksOf(t, up)
		}
	})
}

func TestLooksInLargeForests(t *testing.T) {
	for _, up := range largeForests() {
		checkLooksOf(t, up)
		for _, look := range everyLook {
			for seed := range 200 {
				checkLookAll(t, up, look, mixedItems(16, seed%25, seed))
			}
		}
	}
	checkNoLooks(t, alone(17))
	checkNoLooks(t, star(17, 0))
	lateRing := chain(16)
	lateRing[15] = 14
	checkNoLooks(t, lateRing)
}

// TestLooksOneBehindTheOther looks from every list of up to three items of every forest of up to four items.
func TestLooksOneBehindTheOther(t *testing.T) {
	for n := 1; n <= 4; n++ {
		everyList(n, 0, n-1, func(up []int) {
			if !validInModel(up) {
				return
			}
			for count := range 4 {
				everyList(count, 0, n-1, func(items []int) {
					for _, look := range everyLook {
						checkLookAll(t, up, look, items)
					}
				})
			}
		})
	}
}

// TestWaysOfEveryLength looks from the far end of ways of 0 to 15 links.
func TestWaysOfEveryLength(t *testing.T) {
	for links := range 16 {
		up := chain(links + 1)
		checkLooksOf(t, up)
		for _, look := range everyLook {
			want := links
			if look == impl.Halve {
				want = links/2 + links%2
			}
			if steps := impl.StepsUp(up, look, 0); steps != want {
				t.Errorf("StepsUp(a chain of %d links, %d, 0) = %d", links, look, steps)
			}
		}
	}
}

// TestLooksThatAreNamed has the cases to watch: roots, items right under their root, and an even or odd number of links.
func TestLooksThatAreNamed(t *testing.T) {
	for _, c := range []struct {
		up    string
		item  int
		want  [4]string // by Bare, Cut, Halve and Split
		steps [4]int
		looks [4]int
	}{
		{".", 0, [4]string{".", ".", ".", "."}, [4]int{}, [4]int{}},
		{". 0 1 2", 0, [4]string{". 0 1 2", ". 0 1 2", ". 0 1 2", ". 0 1 2"}, [4]int{}, [4]int{}},
		{". 0 1 2", 1, [4]string{". 0 1 2", ". 0 1 2", ". 0 1 2", ". 0 1 2"}, [4]int{1, 1, 1, 1}, [4]int{}},
		{". 0 1 2", 2, [4]string{". 0 1 2", ". 0 0 2", ". 0 0 2", ". 0 0 2"}, [4]int{2, 2, 1, 2}, [4]int{-1, 1, 1, 1}},
		{". 0 1 2", 3, [4]string{". 0 1 2", ". 0 0 0", ". 0 1 1", ". 0 0 1"}, [4]int{3, 3, 2, 3}, [4]int{-1, 1, 2, 2}},
		{". 0 1 2 3", 4, [4]string{". 0 1 2 3", ". 0 0 0 0", ". 0 0 2 2", ". 0 0 1 2"}, [4]int{4, 4, 2, 4}, [4]int{-1, 1, 2, 2}},
		// What hangs on the way, and what stands beside it, keeps its links.
		{"1 2 3 . 1 2 0 .", 0, [4]string{"1 2 3 . 1 2 0 .", "3 3 3 . 1 2 0 .", "2 2 3 . 1 2 0 .", "2 3 3 . 1 2 0 ."}, [4]int{3, 3, 2, 3}, [4]int{-1, 1, 2, 2}},
	} {
		up, ok := impl.ParseForest(c.up)
		if !ok {
			t.Fatalf("ParseForest(%q) = %v", c.up, up)
		}
		for i, look := range everyLook {
			after, ok := impl.LookUp(up, look, c.item)
			if text := impl.FormatForest(after); !ok || text != c.want[i] {
				t.Errorf("LookUp(%q, %d, %d) = %q, %v, not %q", c.up, look, c.item, text, ok, c.want[i])
			}
			if steps := impl.StepsUp(up, look, c.item); steps != c.steps[i] {
				t.Errorf("StepsUp(%q, %d, %d) = %d, not %d", c.up, look, c.item, steps, c.steps[i])
			}
			if looks := impl.LooksToFlat(up, look, c.item); looks != c.looks[i] {
				t.Errorf("LooksToFlat(%q, %d, %d) = %d, not %d", c.up, look, c.item, looks, c.looks[i])
			}
		}
	}
}

// TestLookingChangesNoClass looks in forests as joins make them, and joins again.
func TestLookingChangesNoClass(t *testing.T) {
	for seed := range 100 {
		for _, rule := range everyRule {
			up, _ := impl.JoinAll(alone(16), rule, mixedPairs(16, seed%25, seed))
			again := mixedPairs(16, 24, seed+1)
			joined, _ := impl.JoinAll(up, rule, again)
			for _, look := range everyLook {
				items := mixedItems(16, 24, seed)
				checkLookAll(t, up, look, items)
				after, _ := impl.LookAll(up, look, items)
				joinedAfter, ok := impl.JoinAll(after, rule, again)
				if !ok || !impl.SameClasses(joined, joinedAfter) {
					t.Fatalf("joins of %v and, behind looks, of %v make other classes", up, after)
				}
			}
		}
	}
}

// TestHowManyLooks looks from 24 items, from none, and from too many.
func TestHowManyLooks(t *testing.T) {
	far := make([]int, 24) // all of them item 0, at the far end of a chain
	for _, c := range []struct {
		look  impl.Look
		total int
	}{{impl.Bare, 24 * 15}, {impl.Cut, 15 + 23}, {impl.Halve, 8 + 4 + 2 + 21}, {impl.Split, 15 + 8 + 4 + 2 + 20}} {
		checkLookAll(t, chain(16), c.look, far)
		checkLookAll(t, chain(16), c.look, nil)
		if total := impl.TotalUp(chain(16), c.look, far); total != c.total {
			t.Errorf("TotalUp(a chain, %d, 24 times 0) = %d", c.look, total)
		}
		if total := impl.TotalUp(chain(16), c.look, nil); total != 0 {
			t.Errorf("TotalUp(a chain, %d, none) = %d", c.look, total)
		}
		for _, count := range []int{25, 26, 100000} {
			checkNotLookedAll(t, []int{0}, c.look, make([]int, count))
			checkNotLookedAll(t, chain(16), c.look, make([]int, count))
		}
		wrong := slices.Clone(far)
		wrong[23] = 16
		checkNotLookedAll(t, chain(16), c.look, wrong)
		wrong[23] = -1
		checkNotLookedAll(t, chain(16), c.look, wrong)
	}
}

// TestLooksAreNew overwrites results, and looks whether anything else changes.
func TestLooksAreNew(t *testing.T) {
	memory := []int{0, 0, 1, 2, 3, 99, 99}
	up := memory[:5]
	itemMemory := []int{4, 3, 99, 99}
	items := itemMemory[:2]
	for _, look := range everyLook {
		for range 2 {
			one, _ := impl.LookUp(up, look, 4)
			all, _ := impl.LookAll(up, look, items)
			none, _ := impl.LookAll(up, look, nil)
			flat, _ := impl.FlatForest(up)
			overwrite(one)
			overwrite(all)
			overwrite(none)
			overwrite(flat)
			checkLooksOf(t, up)
			checkLookAll(t, up, look, items)
		}
	}
	if !slices.Equal(memory, []int{0, 0, 1, 2, 3, 99, 99}) || !slices.Equal(itemMemory, []int{4, 3, 99, 99}) {
		t.Errorf("the arguments have become %v and %v", memory, itemMemory)
	}
}
