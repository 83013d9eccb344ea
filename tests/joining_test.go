package tests

import (
	"math"
	"math/bits"
	"slices"
	"strconv"
	"strings"
	"testing"

	"loop.example/linkedroots/impl"
)

// The expectations for many joins come from this model. It counts all items
// anew for every join, and keeps nothing.

var everyRule = []impl.Rule{impl.Plain, impl.Size, impl.Height}

// noRules are numbers that are no rules.
var noRules = []impl.Rule{-1, 3, 4, math.MinInt, math.MaxInt}

func sizesInModel(up []int) []int {
	sizes := make([]int, len(up))
	for item := range up {
		for _, above := range wayInModel(up, item) {
			sizes[above]++
		}
	}
	return sizes
}

func heightsInModel(up []int) []int {
	heights := make([]int, len(up))
	for item := range up {
		for links, above := range wayInModel(up, item) {
			heights[above] = max(heights[above], links)
		}
	}
	return heights
}

// joinInModel returns the forest in which two items are joined, and false if they are together.
func joinInModel(up []int, rule impl.Rule, a, b int) ([]int, bool) {
	first, _ := rootInModel(up, a)
	second, _ := rootInModel(up, b)
	if first == second {
		return slices.Clone(up), false
	}
	lower, upper := first, second
	has := sizesInModel(up)
	if rule == impl.Height {
		has = heightsInModel(up)
	}
	if rule != impl.Plain && (has[second] < has[first] || has[second] == has[first] && second > first) {
		lower, upper = second, first
	}
	joined := slices.Clone(up)
	joined[lower] = upper
	return joined, true
}

// joinAllInModel returns the forest and the indices of the pairs that were not together.
func joinAllInModel(up []int, rule impl.Rule, pairs []impl.Pair) (joined, useful []int) {
	joined = slices.Clone(up)
	for i, p := range pairs {
		next, apart := joinInModel(joined, rule, p.A, p.B)
		joined = next
		if apart {
			useful = append(useful, i)
		}
	}
	return joined, useful
}

func pairsTextInModel(pairs []impl.Pair) string {
	text := ""
	for i, p := range pairs {
		if i > 0 {
			text += " "
		}
		text += strconv.Itoa(p.A) + "-" + strconv.Itoa(p.B)
	}
	if text == "" {
		return "-"
	}
	return text
}

// everyPair returns all pairs of n items, those of one item included.
func everyPair(n int) []impl.Pair {
	var pairs []impl.Pair
	for a := range n {
		for b := range n {
			pairs = append(pairs, impl.Pair{A: a, B: b})
		}
	}
	return pairs
}

// everyPairs calls f with every list of so many pairs of n items.
func everyPairs(n, count int, f func(pairs []impl.Pair)) {
	every := everyPair(n)
	everyList(count, 0, len(every)-1, func(list []int) {
		pairs := make([]impl.Pair, count)
		for i, at := range list {
			pairs[i] = every[at]
		}
		f(pairs)
	})
}

// mixedPairs returns so many pairs of n items by a short rule, another list for each seed.
func mixedPairs(n, count, seed int) []impl.Pair {
	pairs := make([]impl.Pair, count)
	state := uint32(seed)*2654435761 + 12345
	for i := range pairs {
		state = state*1664525 + 1013904223
		a := int(state>>16) % n
		state = state*1664525 + 1013904223
		pairs[i] = impl.Pair{A: a, B: int(state>>16) % n}
	}
	return pairs
}

// checkJoin holds one join against the model.
func checkJoin(t *testing.T, up []int, rule impl.Rule, a, b int) {
	t.Helper()
	want, apart := joinInModel(up, rule, a, b)
	if !apart {
		want = nil
	}
	joined, ok := impl.Join(up, rule, a, b)
	if ok != apart || !slices.Equal(joined, want) {
		t.Fatalf("Join(%v, %d, %d, %d) = %v, %v, not %v", up, rule, a, b, joined, ok, want)
	}
}

// checkJoinAll holds the joining of all pairs against the model.
func checkJoinAll(t *testing.T, up []int, rule impl.Rule, pairs []impl.Pair) {
	t.Helper()
	want, _ := joinAllInModel(up, rule, pairs)
	if joined, ok := impl.JoinAll(up, rule, pairs); !ok || !slices.Equal(joined, want) {
		t.Fatalf("JoinAll(%v, %d, %v) = %v, %v, not %v", up, rule, pairs, joined, ok, want)
	}
}

// checkUseful holds the useful pairs and the number of classes against the model.
func checkUseful(t *testing.T, n int, pairs []impl.Pair) {
	t.Helper()
	joined, want := joinAllInModel(alone(n), impl.Plain, pairs)
	if useful, ok := impl.UsefulPairs(n, pairs); !ok || !slices.Equal(useful, want) {
		t.Fatalf("UsefulPairs(%d, %v) = %v, %v, not %v", n, pairs, useful, ok, want)
	}
	if classes := impl.CountClasses(n, pairs); classes != len(classesInModel(joined)) {
		t.Fatalf("CountClasses(%d, %v) = %d", n, pairs, classes)
	}
}

// checkNotJoined checks that a join of two items by a rule is refused, alone and among others.
func checkNotJoined(t *testing.T, up []int, rule impl.Rule, a, b int) {
	t.Helper()
	if joined, ok := impl.Join(up, rule, a, b); len(joined) != 0 || ok {
		t.Fatalf("Join(%v, %d, %d, %d) = %v, %v", up, rule, a, b, joined, ok)
	}
	for _, pairs := range [][]impl.Pair{{{A: a, B: b}}, {{A: 0, B: 0}, {A: a, B: b}}, {{A: a, B: b}, {A: 0, B: 0}}} {
		if joined, ok := impl.JoinAll(up, rule, pairs); len(joined) != 0 || ok {
			t.Fatalf("JoinAll(%v, %d, %v) = %v, %v", up, rule, pairs, joined, ok)
		}
	}
}

// checkJoinsOf checks all joins of two items of a valid forest, and what is told of each item.
func checkJoinsOf(t *testing.T, up []int) {
	t.Helper()
	before := slices.Clone(up)
	if sizes, ok := impl.SizesOf(up); !ok || !slices.Equal(sizes, sizesInModel(up)) {
		t.Fatalf("SizesOf(%v) = %v, %v", up, sizes, ok)
	}
	if heights, ok := impl.HeightsOf(up); !ok || !slices.Equal(heights, heightsInModel(up)) {
		t.Fatalf("HeightsOf(%v) = %v, %v", up, heights, ok)
	}
	for _, p := range everyPair(len(up)) {
		for _, rule := range everyRule {
			checkJoin(t, up, rule, p.A, p.B)
			checkJoinAll(t, up, rule, []impl.Pair{p})
		}
		for _, rule := range noRules {
			checkNotJoined(t, up, rule, p.A, p.B)
		}
	}
	for _, none := range []int{-1, len(up), 16, math.MinInt, math.MaxInt} {
		for _, rule := range everyRule {
			checkNotJoined(t, up, rule, 0, none)
			checkNotJoined(t, up, rule, none, 0)
			checkNotJoined(t, up, rule, none, none)
		}
	}
	if !slices.Equal(up, before) {
		t.Fatalf("%v has become %v", before, up)
	}
}

// checkNoJoins checks that nothing is joined in a forest that is not valid, and nothing told of it.
func checkNoJoins(t *testing.T, up []int) {
	t.Helper()
	if sizes, ok := impl.SizesOf(up); len(sizes) != 0 || ok {
		t.Fatalf("SizesOf(%v) = %v, %v", up, sizes, ok)
	}
	if heights, ok := impl.HeightsOf(up); len(heights) != 0 || ok {
		t.Fatalf("HeightsOf(%v) = %v, %v", up, heights, ok)
	}
	for _, rule := range everyRule {
		for _, b := range []int{-1, 0, 1, len(up) - 1, len(up)} {
			checkNotJoined(t, up, rule, 0, b)
			checkNotJoined(t, up, rule, b, 0)
		}
		if joined, ok := impl.JoinAll(up, rule, nil); len(joined) != 0 || ok {
			t.Fatalf("JoinAll(%v, %d, none) = %v, %v", up, rule, joined, ok)
		}
	}
}

func TestJoinsOfEverySmallForest(t *testing.T) {
	for n := range 5 {
		everyList(n, -1, n, func(up []int) {
			if validInModel(up) {
				checkJoinsOf(t, up)
			} else {
				checkNoJoins(t, up)
			}
		})
	}
	everyList(5, 0, 4, func(up []int) {
		if validInModel(up) {
			checkJoinsOf(t, up)
		}
	})
}

func TestJoinsOfLargeForests(t *testing.T) {
	for _, up := range largeForests() {
		checkJoinsOf(t, up)
	}
	checkNoJoins(t, alone(17))
	checkNoJoins(t, star(17, 0))
	lateRing := chain(16)
	lateRing[15] = 14
	checkNoJoins(t, lateRing)
}

// TestPairsOneBehindTheOther joins every list of up to three pairs in every forest of up to three items.
func TestPairsOneBehindTheOther(t *testing.T) {
	for n := 1; n <= 3; n++ {
		for count := range 4 {
			everyPairs(n, count, func(pairs []impl.Pair) {
				checkUseful(t, n, pairs)
				everyList(n, 0, n-1, func(up []int) {
					if !validInModel(up) {
						return
					}
					for _, rule := range everyRule {
						checkJoinAll(t, up, rule, pairs)
					}
				})
			})
		}
	}
}

// TestManyPairs joins lists of up to 24 pairs.
func TestManyPairs(t *testing.T) {
	for seed := range 200 {
		for n := 1; n <= 16; n++ {
			pairs := mixedPairs(n, seed%25, seed)
			before := slices.Clone(pairs)
			checkUseful(t, n, pairs)
			for _, rule := range everyRule {
				checkJoinAll(t, alone(n), rule, pairs)
			}
			if !slices.Equal(pairs, before) {
				t.Fatalf("%v has become %v", before, pairs)
			}
		}
		for _, up := range largeForests() {
			for _, rule := range everyRule {
				checkJoinAll(t, up, rule, mixedPairs(16, 24, seed))
			}
		}
	}
}

// TestSameClassesInAnyOrder joins the same pairs in every order, either way around and by every rule.
func TestSameClassesInAnyOrder(t *testing.T) {
	for seed := range 20 {
		pairs := mixedPairs(6, 5, seed)
		first, _ := impl.JoinAll(alone(6), impl.Plain, pairs)
		everyList(5, 0, 4, func(order []int) {
			if slices.Max(order) != 4 || len(slices.Compact(slices.Sorted(slices.Values(order)))) != 5 {
				return
			}
			shuffled := make([]impl.Pair, 5)
			for i, at := range order {
				shuffled[i] = pairs[at]
				if at%2 == 1 {
					shuffled[i] = impl.Pair{A: pairs[at].B, B: pairs[at].A}
				}
			}
			for _, rule := range everyRule {
				joined, ok := impl.JoinAll(alone(6), rule, shuffled)
				if !ok || !impl.SameClasses(first, joined) {
					t.Fatalf("%v by rule %d makes other classes than %v", shuffled, rule, pairs)
				}
			}
			if impl.CountClasses(6, shuffled) != impl.CountClasses(6, pairs) {
				t.Fatalf("%v makes more or fewer classes than %v", shuffled, pairs)
			}
		})
	}
}

// TestNoRootIsFar looks at how deep forests become that are joined by size and by height.
func TestNoRootIsFar(t *testing.T) {
	// These join two and two of the same size and height each time.
	var doubling []impl.Pair
	for step := 1; step < 16; step *= 2 {
		for i := 0; i < 16; i += 2 * step {
			doubling = append(doubling, impl.Pair{A: i, B: i + step})
		}
	}
	lists := [][]impl.Pair{doubling}
	for seed := range 300 {
		lists = append(lists, mixedPairs(16, 24, seed))
	}
	for _, pairs := range lists {
		for _, rule := range []impl.Rule{impl.Size, impl.Height} {
			up, _ := impl.JoinAll(alone(16), rule, pairs)
			sizes, _ := impl.SizesOf(up)
			heights, _ := impl.HeightsOf(up)
			for item := range up {
				if heights[item] > bits.Len(uint(sizes[item]))-1 {
					t.Fatalf("%v by rule %d: %d links below %d of %v", pairs, rule, heights[item], item, up)
				}
			}
		}
	}
	for _, rule := range []impl.Rule{impl.Size, impl.Height} {
		if up, _ := impl.JoinAll(alone(16), rule, doubling); impl.DeepestOf(up) != 4 {
			t.Errorf("rule %d: DeepestOf(%v) = %d", rule, up, impl.DeepestOf(up))
		}
	}
}

// TestWhoGoesUnder names the cases that the rules tell apart.
func TestWhoGoesUnder(t *testing.T) {
	for _, c := range []struct {
		up   string
		a, b int
		want [3]string // by Plain, Size and Height
	}{
		// As many and as high: the greater number goes under, whichever item comes first.
		{". .", 0, 1, [3]string{"1 .", ". 0", ". 0"}},
		{". .", 1, 0, [3]string{". 0", ". 0", ". 0"}},
		{"2 3 . .", 0, 1, [3]string{"2 3 3 .", "2 3 . 2", "2 3 . 2"}},
		{"2 3 . .", 1, 0, [3]string{"2 3 . 2", "2 3 . 2", "2 3 . 2"}},
		// As many, but not as high.
		{"2 2 . 4 5 .", 0, 3, [3]string{"2 2 5 4 5 .", "2 2 . 4 5 2", "2 2 5 4 5 ."}},
		{"2 2 . 4 5 .", 3, 0, [3]string{"2 2 . 4 5 2", "2 2 . 4 5 2", "2 2 5 4 5 ."}},
		// As high, but not as many.
		{". 0 . 2 2", 1, 3, [3]string{"2 0 . 2 2", "2 0 . 2 2", ". 0 0 2 2"}},
		{". 0 . 2 2", 3, 1, [3]string{". 0 0 2 2", "2 0 . 2 2", ". 0 0 2 2"}},
		// Fewer, but higher.
		{"1 2 . 6 6 6 .", 0, 3, [3]string{"1 2 6 6 6 6 .", "1 2 6 6 6 6 .", "1 2 . 6 6 6 2"}},
		{"1 2 . 6 6 6 .", 3, 0, [3]string{"1 2 . 6 6 6 2", "1 2 6 6 6 6 .", "1 2 . 6 6 6 2"}},
	} {
		up, ok := impl.ParseForest(c.up)
		if !ok {
			t.Fatalf("ParseForest(%q) = %v", c.up, up)
		}
		for i, rule := range everyRule {
			joined, ok := impl.Join(up, rule, c.a, c.b)
			if text := impl.FormatForest(joined); !ok || text != c.want[i] {
				t.Errorf("Join(%q, %d, %d, %d) = %q, %v, not %q", c.up, rule, c.a, c.b, text, ok, c.want[i])
			}
		}
	}
}

// TestTogetherAlready joins items that are one, or together.
func TestTogetherAlready(t *testing.T) {
	up := []int{0, 0, 1, 3, 3}
	for _, rule := range everyRule {
		for _, p := range []impl.Pair{{A: 0, B: 0}, {A: 2, B: 2}, {A: 0, B: 2}, {A: 2, B: 0}, {A: 3, B: 4}} {
			if joined, ok := impl.Join(up, rule, p.A, p.B); len(joined) != 0 || ok {
				t.Errorf("Join(%v, %d, %v) = %v, %v", up, rule, p, joined, ok)
			}
			if joined, ok := impl.JoinAll(up, rule, []impl.Pair{p, p}); !ok || !slices.Equal(joined, up) {
				t.Errorf("JoinAll(%v, %d, %v) = %v, %v", up, rule, p, joined, ok)
			}
		}
		if joined, ok := impl.JoinAll(up, rule, nil); !ok || !slices.Equal(joined, up) {
			t.Errorf("JoinAll(%v, %d, none) = %v, %v", up, rule, joined, ok)
		}
	}
	ones := make([]impl.Pair, 24)
	if useful, ok := impl.UsefulPairs(1, ones); len(useful) != 0 || !ok || impl.CountClasses(1, ones) != 1 {
		t.Errorf("UsefulPairs(1, 24 pairs of item 0) = %v, %v", useful, ok)
	}
	ones[23] = impl.Pair{A: 2, B: 1}
	if useful, ok := impl.UsefulPairs(3, ones); !slices.Equal(useful, []int{23}) || !ok || impl.CountClasses(3, ones) != 2 {
		t.Errorf("UsefulPairs(3, 24 pairs) = %v, %v", useful, ok)
	}
}

// TestPairsThatAreNotValid gives pairs of no such items, too many pairs, and no such number of items.
func TestPairsThatAreNotValid(t *testing.T) {
	refused := func(n int, pairs []impl.Pair) {
		t.Helper()
		if useful, ok := impl.UsefulPairs(n, pairs); len(useful) != 0 || ok {
			t.Errorf("UsefulPairs(%d, %v) = %v, %v", n, pairs, useful, ok)
		}
		if classes := impl.CountClasses(n, pairs); classes != -1 {
			t.Errorf("CountClasses(%d, %v) = %d", n, pairs, classes)
		}
		if n < 1 || n > 16 {
			return
		}
		for _, rule := range everyRule {
			if joined, ok := impl.JoinAll(alone(n), rule, pairs); len(joined) != 0 || ok {
				t.Errorf("JoinAll(%d items, %d, %v) = %v, %v", n, rule, pairs, joined, ok)
			}
		}
	}
	for _, n := range []int{0, -1, 17, math.MinInt, math.MaxInt} {
		refused(n, nil)
		refused(n, []impl.Pair{{A: 0, B: 0}})
	}
	for n := 1; n <= 16; n++ {
		refused(n, make([]impl.Pair, 25))
		refused(n, make([]impl.Pair, 100000))
		for _, none := range []int{-1, n, 16, math.MinInt, math.MaxInt} {
			refused(n, []impl.Pair{{A: 0, B: none}})
			refused(n, []impl.Pair{{A: none, B: 0}})
			refused(n, []impl.Pair{{A: 0, B: n - 1}, {A: none, B: none}})
		}
		checkUseful(t, n, make([]impl.Pair, 24))
		checkUseful(t, n, nil)
	}
	for _, rule := range noRules {
		if joined, ok := impl.JoinAll(alone(3), rule, nil); len(joined) != 0 || ok {
			t.Errorf("JoinAll(by rule %d) = %v, %v", rule, joined, ok)
		}
	}
}

// TestSmallPairTexts parses every text of up to 7 bytes of some with which pairs are written, and some more.
func TestSmallPairTexts(t *testing.T) {
	texts := map[string][]impl.Pair{"-": nil}
	for _, p := range everyPair(16) {
		texts[pairsTextInModel([]impl.Pair{p})] = []impl.Pair{p}
	}
	// Two pairs in 7 bytes have one digit for each item, here 0, 1 or 6.
	for _, p := range everyPair(7) {
		for _, q := range everyPair(7) {
			texts[pairsTextInModel([]impl.Pair{p, q})] = []impl.Pair{p, q}
		}
	}
	const letters = " -016+."
	for length := range 8 {
		everyList(length, 0, len(letters)-1, func(list []int) {
			text := ""
			for _, at := range list {
				text += letters[at : at+1]
			}
			pairs, ok := impl.ParsePairs(text)
			if want, valid := texts[text]; ok != valid || !slices.Equal(pairs, want) {
				t.Fatalf("ParsePairs(%q) = %v, %v", text, pairs, ok)
			}
		})
	}
}

func TestPairTexts(t *testing.T) {
	for seed := range 200 {
		pairs := mixedPairs(16, seed%25, seed)
		text := impl.FormatPairs(pairs)
		if text != pairsTextInModel(pairs) {
			t.Fatalf("FormatPairs(%v) = %q", pairs, text)
		}
		if parsed, ok := impl.ParsePairs(text); !ok || !slices.Equal(parsed, pairs) {
			t.Fatalf("ParsePairs(%q) = %v, %v", text, parsed, ok)
		}
	}
	for _, none := range []int{-1, 16, 17, math.MinInt, math.MaxInt} {
		for _, pairs := range [][]impl.Pair{{{A: none}}, {{B: none}}, {{A: 1, B: 2}, {A: 3, B: none}}, {{A: none, B: 2}, {A: 3, B: 4}}} {
			if text := impl.FormatPairs(pairs); text != "" {
				t.Errorf("FormatPairs(%v) = %q", pairs, text)
			}
		}
	}
	if text := impl.FormatPairs(make([]impl.Pair, 25)); text != "" {
		t.Errorf("FormatPairs(25 pairs) = %q", text)
	}
	most := strings.Repeat("15-15 ", 23) + "15-15"
	if text := impl.FormatPairs(slices.Repeat([]impl.Pair{{A: 15, B: 15}}, 24)); text != most {
		t.Errorf("FormatPairs(24 pairs) = %q", text)
	}
	for _, text := range []string{
		"", " ", "--", "- ", " -", "- -", "-\n", "0", "0-", "-0", "0-1-2", "0--1", "-1-0", "0-16", "16-0", "00-1", "0-01",
		"+0-1", "0-+1", "0-1 ", " 0-1", "0-1  1-2", "0-1 -", "- 0-1", "0-1\t1-2", "0-1\n", "0-1,1-2", "0 1", "0 - 1", "0−1", "０-1",
		"0x1-1", "1_0-1", "0-1.0", "0-1e0", "a-b", "0-18446744073709551616", "18446744073709551616-0", "0-4294967296", "\x00-1", "0-\xff",
		most + " 15-15", most + " ", most + "-", most + "\n", " " + most,
		strings.Repeat("0-1 ", 100000) + "0-1", strings.Repeat("0", 100000), strings.Repeat("-", 100000),
	} {
		if pairs, ok := impl.ParsePairs(text); len(pairs) != 0 || ok {
			t.Errorf("ParsePairs(%.40q) = %v, %v", text, pairs, ok)
		}
	}
}

// TestJoiningExample is the example of chapter 2.
func TestJoiningExample(t *testing.T) {
	pairs, ok := impl.ParsePairs("0-1 2-3 1-3")
	if !ok || !slices.Equal(pairs, []impl.Pair{{A: 0, B: 1}, {A: 2, B: 3}, {A: 1, B: 3}}) {
		t.Fatalf("ParsePairs = %v, %v", pairs, ok)
	}
	if up, ok := impl.JoinAll(alone(4), impl.Size, pairs); !ok || impl.FormatForest(up) != ". 0 0 2" {
		t.Errorf("JoinAll = %v, %v", up, ok)
	}
}

// TestJoinsAreNew overwrites results, and looks whether anything else changes.
func TestJoinsAreNew(t *testing.T) {
	memory := []int{0, 0, 1, 3, 3, 99, 99}
	up := memory[:5]
	pairMemory := []impl.Pair{{A: 0, B: 3}, {A: 1, B: 4}, {A: 99, B: 99}}
	pairs := pairMemory[:2]
	for _, rule := range everyRule {
		for range 2 {
			one, _ := impl.Join(up, rule, 2, 4)
			all, _ := impl.JoinAll(up, rule, pairs)
			same, _ := impl.JoinAll(up, rule, nil)
			checkJoin(t, up, rule, 2, 4)
			checkJoinAll(t, up, rule, pairs)
			checkJoinAll(t, up, rule, nil)
			overwrite(one)
			overwrite(all)
			overwrite(same)
		}
	}
	for range 2 {
		sizes, _ := impl.SizesOf(up)
		heights, _ := impl.HeightsOf(up)
		useful, _ := impl.UsefulPairs(5, pairs)
		if !slices.Equal(sizes, []int{3, 2, 1, 2, 1}) || !slices.Equal(heights, []int{2, 1, 0, 1, 0}) || !slices.Equal(useful, []int{0, 1}) {
			t.Errorf("%v, %v, %v", sizes, heights, useful)
		}
		overwrite(sizes)
		overwrite(heights)
		overwrite(useful)
	}
	first, _ := impl.ParsePairs("0-1")
	first[:cap(first)][0] = impl.Pair{A: -7, B: -7}
	if second, _ := impl.ParsePairs("0-1"); !slices.Equal(second, []impl.Pair{{A: 0, B: 1}}) {
		t.Errorf("ParsePairs = %v", second)
	}
	if !slices.Equal(memory, []int{0, 0, 1, 3, 3, 99, 99}) {
		t.Errorf("the forest has become %v", memory)
	}
	if !slices.Equal(pairMemory, []impl.Pair{{A: 0, B: 3}, {A: 1, B: 4}, {A: 99, B: 99}}) {
		t.Errorf("the pairs have become %v", pairMemory)
	}
}
