package tests

import (
	"math"
	"regexp"
	"slices"
	"strconv"
	"strings"
	"testing"

	"loop.example/linkedroots/impl"
)

// The expectations for many links come from this model. It looks at all links
// again until nothing changes, tries all sets and all numbers, and sorts nothing.

// noWeights are numbers that are no weights.
func noWeights() []int { return []int{-1, -2, 100, 101, math.MinInt, math.MaxInt} }

// labelsInModel returns for each item the first one to which one comes over the
// links that are taken.
func labelsInModel(n int, links []impl.Link, taken func(i int) bool) []int {
	labels := alone(n)
	for changed := true; changed; {
		changed = false
		for i, link := range links {
			if taken(i) && labels[link.A] != labels[link.B] {
				label := min(labels[link.A], labels[link.B])
				labels[link.A], labels[link.B] = label, label
				changed = true
			}
		}
	}
	return labels
}

// countInModel returns how many classes there are by labels.
func countInModel(labels []int) int {
	count := 0
	for item, label := range labels {
		if item == label {
			count++
		}
	}
	return count
}

func lighterInModel(links []impl.Link, i, j int) bool {
	return links[i].Weight < links[j].Weight || links[i].Weight == links[j].Weight && i < j
}

func heavierInModel(links []impl.Link, i, j int) bool {
	return links[i].Weight > links[j].Weight || links[i].Weight == links[j].Weight && i < j
}

// kruskalInModel returns the indices of the links whose items are not together
// by all links that come before, whether these have joined anything or not.
func kruskalInModel(n int, links []impl.Link, before func(links []impl.Link, i, j int) bool) []int {
	var joined []int
	for i, link := range links {
		labels := labelsInModel(n, links, func(j int) bool { return before(links, j, i) })
		if labels[link.A] != labels[link.B] {
			joined = append(joined, i)
		}
	}
	return joined
}

func weightInModel(links []impl.Link, chosen []int) int {
	sum := 0
	for _, i := range chosen {
		sum += links[i].Weight
	}
	return sum
}

// joinsAllInModel reports whether chosen links join what all links join, and
// are as few as can be for that.
func joinsAllInModel(n int, links []impl.Link, chosen []int) bool {
	all := labelsInModel(n, links, func(int) bool { return true })
	some := labelsInModel(n, links, func(i int) bool { return slices.Contains(chosen, i) })
	return slices.Equal(all, some) && len(chosen) == n-countInModel(all)
}

// everySet calls f with every set of numbers below count, in ascending order.
func everySet(count int, f func(chosen []int)) {
	for set := range 1 << count {
		var chosen []int
		for i := range count {
			if set>>i&1 == 1 {
				chosen = append(chosen, i)
			}
		}
		f(chosen)
	}
}

// bestInModel returns the least and the greatest weight of a set that joins all,
// and how many have the least one.
func bestInModel(n int, links []impl.Link) (low, high, count int) {
	low = math.MaxInt
	everySet(len(links), func(chosen []int) {
		if !joinsAllInModel(n, links, chosen) {
			return
		}
		weight := weightInModel(links, chosen)
		if weight < low {
			low, count = weight, 0
		}
		if weight == low {
			count++
		}
		high = max(high, weight)
	})
	return low, high, count
}

// narrowInModel tries all numbers.
func narrowInModel(n int, links []impl.Link, a, b int) (int, bool) {
	for number := range 100 {
		labels := labelsInModel(n, links, func(i int) bool { return links[i].Weight <= number })
		if labels[a] == labels[b] {
			return number, true
		}
	}
	return -1, false
}

// groupsInModel returns the forest for each number of classes, from 1 on, and
// the least number for which there is one.
func groupsInModel(n int, links []impl.Link) ([][]int, int) {
	up, classes := alone(n), n
	groups := make([][]int, n)
	groups[n-1] = up
	taken := make([]bool, len(links))
	for range links {
		lightest := -1
		for i := range links {
			if !taken[i] && (lightest < 0 || lighterInModel(links, i, lightest)) {
				lightest = i
			}
		}
		taken[lightest] = true
		joined, apart := joinInModel(up, impl.Size, links[lightest].A, links[lightest].B)
		if apart {
			classes--
			up = joined
			groups[classes-1] = up
		}
	}
	for k := range classes - 1 {
		groups[k] = up
	}
	return groups, classes
}

func linksTextInModel(links []impl.Link) string {
	var words []string
	for _, link := range links {
		words = append(words, strconv.Itoa(link.A)+"-"+strconv.Itoa(link.B)+":"+strconv.Itoa(link.Weight))
	}
	if words == nil {
		return "-"
	}
	return strings.Join(words, " ")
}

// mixedLinks returns so many links of n items with weights up to the most, others for each seed.
func mixedLinks(n, count, most, seed int) []impl.Link {
	weights := mixedPairs(most+1, count, seed+500)
	links := make([]impl.Link, count)
	for i, p := range mixedPairs(n, count, seed) {
		links[i] = impl.Link{A: p.A, B: p.B, Weight: weights[i].A}
	}
	return links
}

// everyLinks calls f with every list of so many links of n items with weights up to the most.
func everyLinks(n, count, most int, f func(links []impl.Link)) {
	every := everyPair(n)
	everyList(count, 0, len(every)*(most+1)-1, func(list []int) {
		links := make([]impl.Link, count)
		for i, at := range list {
			p := every[at%len(every)]
			links[i] = impl.Link{A: p.A, B: p.B, Weight: at / len(every)}
		}
		f(links)
	})
}

// linksFromText returns the links that are written as a text.
func linksFromText(t *testing.T, text string) []impl.Link {
	t.Helper()
	links, ok := impl.ParseLinks(text)
	if !ok {
		t.Fatalf("ParseLinks(%q) = false", text)
	}
	return links
}

// noLinksOf are links that are not valid for n items, in one place each.
func noLinksOf(n int) []impl.Link {
	var links []impl.Link
	for _, none := range noItemsOf(n) {
		links = append(links, impl.Link{A: none}, impl.Link{B: none}, impl.Link{A: none, B: none, Weight: 1}, impl.Link{A: n - 1, B: none, Weight: 99})
	}
	for _, none := range noWeights() {
		links = append(links, impl.Link{Weight: none}, impl.Link{A: 0, B: n - 1, Weight: none})
	}
	return links
}

// checkJoinOf checks that a call has returned these indices, and true.
func checkJoinOf(t *testing.T, call string, n int, links []impl.Link, got []int, ok bool, want []int) {
	t.Helper()
	if !ok || !slices.Equal(got, want) {
		t.Fatalf("%s(%d, %v) = %v, %v, not %v", call, n, links, got, ok, want)
	}
}

// checkLinks checks all that is told of valid links of n items but what needs all sets.
func checkLinks(t *testing.T, n int, links []impl.Link) {
	t.Helper()
	before := slices.Clone(links)
	least, ok := impl.LeastJoin(n, links)
	checkJoinOf(t, "LeastJoin", n, links, least, ok, kruskalInModel(n, links, lighterInModel))
	most, ok := impl.MostJoin(n, links)
	checkJoinOf(t, "MostJoin", n, links, most, ok, kruskalInModel(n, links, heavierInModel))
	for _, chosen := range [][]int{least, most} {
		checkWeight(t, links, chosen)
		want := weightInModel(links, chosen) == weightInModel(links, least)
		if is := impl.IsLeast(n, links, chosen); is != want {
			t.Fatalf("IsLeast(%d, %v, %v) = %v", n, links, chosen, is)
		}
	}
	checkGroups(t, n, links)
	checkNarrow(t, n, links)
	checkNotChosen(t, n, links)
	if len(links) > 12 && impl.CountLeast(n, links) != -1 {
		t.Fatalf("CountLeast(%d, %v) = %d", n, links, impl.CountLeast(n, links))
	}
	if !slices.Equal(links, before) {
		t.Fatalf("%v has become %v", before, links)
	}
}

// checkWeight holds the weight of chosen links against the model.
func checkWeight(t *testing.T, links []impl.Link, chosen []int) {
	t.Helper()
	if weight, ok := impl.WeightOf(links, chosen); !ok || weight != weightInModel(links, chosen) {
		t.Fatalf("WeightOf(%v, %v) = %d, %v", links, chosen, weight, ok)
	}
}

// checkGroups holds the forests of all numbers of classes against the model.
func checkGroups(t *testing.T, n int, links []impl.Link) {
	t.Helper()
	groups, fewest := groupsInModel(n, links)
	for i, want := range groups {
		up, ok := impl.GroupsOf(n, links, i+1)
		if !slices.Equal(up, want) || ok != (i+1 >= fewest) {
			t.Fatalf("GroupsOf(%d, %v, %d) = %v, %v, not %v", n, links, i+1, up, ok, want)
		}
	}
	for _, none := range []int{0, -1, n + 1, n + 2, 17, math.MinInt, math.MaxInt} {
		if up, ok := impl.GroupsOf(n, links, none); len(up) != 0 || ok {
			t.Fatalf("GroupsOf(%d, %v, %d) = %v, %v", n, links, none, up, ok)
		}
	}
}

// checkNarrow holds what is told between all items against the model.
func checkNarrow(t *testing.T, n int, links []impl.Link) {
	t.Helper()
	for _, p := range everyPair(n) {
		want, together := narrowInModel(n, links, p.A, p.B)
		if narrow, ok := impl.NarrowBetween(n, links, p.A, p.B); narrow != want || ok != together {
			t.Fatalf("NarrowBetween(%d, %v, %d, %d) = %d, %v, not %d", n, links, p.A, p.B, narrow, ok, want)
		}
	}
	for _, none := range noItemsOf(n) {
		for _, p := range []impl.Pair{{A: 0, B: none}, {A: none, B: 0}, {A: none, B: none}} {
			checkNoWay(t, n, links, p)
		}
	}
}

// checkNoWay checks that nothing is told between two items.
func checkNoWay(t *testing.T, n int, links []impl.Link, p impl.Pair) {
	t.Helper()
	if narrow, ok := impl.NarrowBetween(n, links, p.A, p.B); narrow != -1 || ok {
		t.Fatalf("NarrowBetween(%d, %v, %d, %d) = %d, %v", n, links, p.A, p.B, narrow, ok)
	}
}

// checkNotChosen gives indices that are not those of links, or not in ascending order.
func checkNotChosen(t *testing.T, n int, links []impl.Link) {
	t.Helper()
	least := kruskalInModel(n, links, lighterInModel)
	lists := [][]int{{len(links)}, append(slices.Clone(least), len(links)), {-1}, append([]int{-1}, least...), {math.MaxInt}, {math.MinInt}, make([]int, 25), alone(1000)}
	if len(least) > 0 {
		last := least[len(least)-1]
		lists = append(lists, append(slices.Clone(least), last), append([]int{last}, least...), append([]int{least[0]}, least...), append(slices.Clone(least), 0), append(slices.Clone(least), 32+last))
	}
	if len(least) > 1 {
		back := slices.Clone(least)
		slices.Reverse(back)
		lists = append(lists, back)
	}
	for _, chosen := range lists {
		if weight, ok := impl.WeightOf(links, chosen); weight != 0 || ok {
			t.Fatalf("WeightOf(%v, %v) = %d, %v", links, chosen, weight, ok)
		}
		if impl.IsLeast(n, links, chosen) {
			t.Fatalf("IsLeast(%d, %v, %v) = true", n, links, chosen)
		}
	}
}

// checkEverySet checks what is told of all sets of few links.
func checkEverySet(t *testing.T, n int, links []impl.Link) {
	t.Helper()
	low, high, count := bestInModel(n, links)
	least, _ := impl.LeastJoin(n, links)
	most, _ := impl.MostJoin(n, links)
	if weightInModel(links, least) != low || weightInModel(links, most) != high {
		t.Fatalf("LeastJoin(%d, %v) = %v, MostJoin %v, not of the weights %d and %d", n, links, least, most, low, high)
	}
	if got := impl.CountLeast(n, links); got != count {
		t.Fatalf("CountLeast(%d, %v) = %d, not %d", n, links, got, count)
	}
	everySet(len(links), func(chosen []int) {
		want := joinsAllInModel(n, links, chosen) && weightInModel(links, chosen) == low
		if is := impl.IsLeast(n, links, chosen); is != want {
			t.Fatalf("IsLeast(%d, %v, %v) = %v", n, links, chosen, is)
		}
		checkWeight(t, links, chosen)
	})
}

// checkNoLinks checks that nothing is told for invalid arguments.
func checkNoLinks(t *testing.T, n int, links []impl.Link) {
	t.Helper()
	if least, ok := impl.LeastJoin(n, links); len(least) != 0 || ok {
		t.Fatalf("LeastJoin(%d, %v) = %v, %v", n, links, least, ok)
	}
	if most, ok := impl.MostJoin(n, links); len(most) != 0 || ok {
		t.Fatalf("MostJoin(%d, %v) = %v, %v", n, links, most, ok)
	}
	for _, chosen := range [][]int{nil, {0}, {0, 1}, {-1}, {len(links)}} {
		if impl.IsLeast(n, links, chosen) {
			t.Fatalf("IsLeast(%d, %v, %v) = true", n, links, chosen)
		}
	}
	for _, p := range []impl.Pair{{A: 0, B: 0}, {A: 0, B: 1}, {A: 1, B: 0}, {A: 0, B: n - 1}, {A: n, B: n}, {A: -1, B: 16}} {
		checkNoWay(t, n, links, p)
	}
	for _, k := range []int{-1, 0, 1, 2, n - 1, n, n + 1} {
		if up, ok := impl.GroupsOf(n, links, k); len(up) != 0 || ok {
			t.Fatalf("GroupsOf(%d, %v, %d) = %v, %v", n, links, k, up, ok)
		}
	}
	if count := impl.CountLeast(n, links); count != -1 {
		t.Fatalf("CountLeast(%d, %v) = %d", n, links, count)
	}
}

// checkNoWeight checks that links which are not valid for 16 items have no weight and no text.
func checkNoWeight(t *testing.T, links []impl.Link) {
	t.Helper()
	for _, chosen := range [][]int{nil, {0}, {0, 1}, {-1}, {len(links)}} {
		if weight, ok := impl.WeightOf(links, chosen); weight != 0 || ok {
			t.Fatalf("WeightOf(%v, %v) = %d, %v", links, chosen, weight, ok)
		}
	}
	if text := impl.FormatLinks(links); text != "" {
		t.Fatalf("FormatLinks(%v) = %q", links, text)
	}
}

// TestLinksOfFewItems looks at every list of few links of few items.
func TestLinksOfFewItems(t *testing.T) {
	for _, c := range []struct{ n, count, most int }{
		{1, 0, 0}, {1, 1, 1}, {1, 2, 1}, {1, 3, 1},
		{2, 0, 0}, {2, 1, 2}, {2, 2, 2}, {2, 3, 2}, {2, 4, 1},
		{3, 0, 0}, {3, 1, 1}, {3, 2, 2}, {3, 3, 1}, {3, 4, 0}, {4, 3, 0},
	} {
		everyLinks(c.n, c.count, c.most, func(links []impl.Link) {
			checkLinks(t, c.n, links)
			checkEverySet(t, c.n, links)
		})
	}
}

// TestLinksOfEveryNet looks at all sets of links between 4 items, with several weights each.
func TestLinksOfEveryNet(t *testing.T) {
	apart := slices.DeleteFunc(everyPair(4), func(p impl.Pair) bool { return p.A >= p.B })
	seed := 0
	everySet(len(apart), func(chosen []int) {
		for _, most := range []int{0, 1, 2, 3, 99} {
			links := make([]impl.Link, len(chosen))
			for i, link := range mixedLinks(4, len(chosen), most, seed) {
				p := apart[chosen[i]]
				links[i] = impl.Link{A: p.A, B: p.B, Weight: link.Weight}
			}
			checkLinks(t, 4, links)
			checkEverySet(t, 4, links)
			slices.Reverse(links)
			checkLinks(t, 4, links)
			checkEverySet(t, 4, links)
			seed++
		}
	})
}

// TestManyLinks looks at lists of up to 24 links of up to 16 items.
func TestManyLinks(t *testing.T) {
	for seed := range 100 {
		n := 1 + seed%16
		for _, most := range []int{0, 2, 9, 99} {
			checkLinks(t, n, mixedLinks(n, seed%25, most, seed))
			checkLinks(t, n, mixedLinks(n, 24, most, seed))
		}
	}
}

// TestLinksThatAreTried looks at all sets of up to 12 links, the most that are tried.
func TestLinksThatAreTried(t *testing.T) {
	for seed := range 60 {
		n := 2 + seed%9
		for _, most := range []int{0, 1, 99} {
			checkEverySet(t, n, mixedLinks(n, seed%10, most, seed))
		}
	}
	for seed := range 3 {
		for _, n := range []int{4, 7, 16} {
			checkEverySet(t, n, mixedLinks(n, 12, seed, seed))
		}
	}
	// Any one of so many links between two items does.
	for count := range 25 {
		links := slices.Repeat([]impl.Link{{A: 1, B: 0, Weight: 7}}, count)
		want := max(count, 1)
		if count > 12 {
			want = -1
		}
		if got := impl.CountLeast(2, links); got != want {
			t.Errorf("CountLeast(2, %v) = %d, not %d", links, got, want)
		}
	}
	// A ring has as many as links; six links told twice have two for each of them.
	for n := 3; n <= 12; n++ {
		var links []impl.Link
		for _, p := range ringOf(n) {
			links = append(links, impl.Link{A: p.A, B: p.B, Weight: 99})
		}
		if got := impl.CountLeast(n, links); got != n {
			t.Errorf("CountLeast(%d, %v) = %d", n, links, got)
		}
	}
	links := linksFromText(t, "0-1:1 1-2:2 2-3:3 3-4:4 4-5:5 5-6:6 0-1:1 1-2:2 2-3:3 3-4:4 4-5:5 5-6:6")
	if got := impl.CountLeast(7, links); got != 64 {
		t.Errorf("CountLeast(7, %v) = %d", links, got)
	}
}

// checkLinksTold checks what is told of the links of a text.
func checkLinksTold(t *testing.T, n int, text string, least, most []int, low, high, count int) {
	t.Helper()
	links := linksFromText(t, text)
	checkLinks(t, n, links)
	got, ok := impl.LeastJoin(n, links)
	checkJoinOf(t, "LeastJoin", n, links, got, ok, least)
	got, ok = impl.MostJoin(n, links)
	checkJoinOf(t, "MostJoin", n, links, got, ok, most)
	if weight, ok := impl.WeightOf(links, least); weight != low || !ok {
		t.Errorf("WeightOf(%q, %v) = %d, %v", text, least, weight, ok)
	}
	if weight, ok := impl.WeightOf(links, most); weight != high || !ok {
		t.Errorf("WeightOf(%q, %v) = %d, %v", text, most, weight, ok)
	}
	if got := impl.CountLeast(n, links); got != count {
		t.Errorf("CountLeast(%d, %q) = %d, not %d", n, text, got, count)
	}
}

// TestLinksOfTheSameWeight has the first case to watch: those that stand ahead come first, by either order.
func TestLinksOfTheSameWeight(t *testing.T) {
	checkLinksTold(t, 3, "0-1:4 1-2:4 2-0:4", []int{0, 1}, []int{0, 1}, 8, 8, 3)
	checkLinksTold(t, 3, "2-0:4 1-2:4 0-1:4", []int{0, 1}, []int{0, 1}, 8, 8, 3)
	checkLinksTold(t, 2, "0-1:0 1-0:0 0-1:0", []int{0}, []int{0}, 0, 0, 3)
	checkLinksTold(t, 3, "0-1:5 1-2:3 0-2:5", []int{0, 1}, []int{0, 2}, 8, 10, 2)
	checkLinksTold(t, 3, "0-2:5 1-2:3 0-1:5", []int{0, 1}, []int{0, 2}, 8, 10, 2)
	checkLinksTold(t, 4, "0-1:9 1-2:9 2-3:1 3-0:9 0-2:1", []int{0, 2, 4}, []int{0, 1, 3}, 11, 27, 2)
	checkLinksTold(t, 4, "3-0:9 0-1:9 1-2:9 2-3:1 0-2:1", []int{1, 3, 4}, []int{0, 1, 2}, 11, 27, 2)
	checkLinksTold(t, 4, "0-1:99 2-3:99 0-2:0 1-3:0 0-3:50 1-2:50", []int{2, 3, 4}, []int{0, 1, 4}, 50, 248, 2)
	// Which of them comes first decides on the forest, too: so far, and in the end.
	for _, c := range []struct {
		text, want string
		k          int
	}{
		{"0-1:7 2-3:7 1-2:7", ". 0 . .", 3}, {"2-3:7 0-1:7 1-2:7", ". . . 2", 3}, {"1-2:7 2-3:7 0-1:7", ". . 1 .", 3},
		{"0-1:7 2-3:7 1-2:7", ". 0 . 2", 2}, {"2-3:7 1-2:7 0-1:7", ". 2 . 2", 2}, {"1-2:7 2-3:7 0-1:7", ". . 1 1", 2},
		{"0-1:7 2-3:7 1-2:7", ". 0 0 2", 1}, {"2-3:7 1-2:7 0-1:7", "2 2 . 2", 1}, {"1-2:7 2-3:7 0-1:7", "1 . 1 1", 1},
		{"0-1:7 2-3:6 1-2:7", ". . . 2", 3}, {"0-1:8 2-3:7 1-2:7", ". 2 . 2", 2}, {"0-1:7 1-0:7 2-3:7", ". 0 . 2", 2},
	} {
		if up, ok := impl.GroupsOf(4, linksFromText(t, c.text), c.k); impl.FormatForest(up) != c.want || !ok {
			t.Errorf("GroupsOf(%q, %d) = %q, %v, not %q", c.text, c.k, impl.FormatForest(up), ok, c.want)
		}
	}
	// Of links that are all as heavy, the useful pairs join: by either order.
	for seed := range 60 {
		n := 1 + seed%16
		links := mixedLinks(n, 24, 0, seed)
		useful, _ := impl.UsefulPairs(n, mixedPairs(n, 24, seed))
		for weight := range 100 {
			for i := range links {
				links[i].Weight = weight
			}
			least, ok := impl.LeastJoin(n, links)
			checkJoinOf(t, "LeastJoin", n, links, least, ok, useful)
			most, ok := impl.MostJoin(n, links)
			checkJoinOf(t, "MostJoin", n, links, most, ok, useful)
		}
	}
}

// TestLinksOfOneItem has the second case to watch: they join nothing, and are in no joining.
func TestLinksOfOneItem(t *testing.T) {
	checkLinksTold(t, 1, "0-0:0", nil, nil, 0, 0, 1)
	checkLinksTold(t, 1, "0-0:99 0-0:0 0-0:5", nil, nil, 0, 0, 1)
	checkLinksTold(t, 2, "0-0:0 1-1:99 0-1:5", []int{2}, []int{2}, 5, 5, 1)
	checkLinksTold(t, 4, "0-1:2 2-2:0", []int{0}, []int{0}, 2, 2, 1)
	checkLinksTold(t, 3, "1-1:0 0-1:5 2-2:0 1-2:3 0-0:9 0-2:4", []int{3, 5}, []int{1, 5}, 7, 9, 1)
	for n := 1; n <= 16; n++ {
		for item := range n {
			links := slices.Repeat([]impl.Link{{A: item, B: item}}, 24)
			checkLinks(t, n, links)
			if impl.CountLeast(n, links[:12]) != 1 || !impl.IsLeast(n, links, nil) || impl.IsLeast(n, links, []int{5}) {
				t.Errorf("CountLeast(%d, %v) = %d", n, links[:12], impl.CountLeast(n, links[:12]))
			}
			// An item is together with itself without any link, and so at 0.
			links[7].Weight = 3
			if narrow, ok := impl.NarrowBetween(n, links[7:8], item, item); narrow != 0 || !ok {
				t.Errorf("NarrowBetween(%d, %v, %d, %d) = %d, %v", n, links[7:8], item, item, narrow, ok)
			}
		}
	}
}

// TestItemsThatNoLinkJoins has the third case to watch: they stay alone, or in classes of their own.
func TestItemsThatNoLinkJoins(t *testing.T) {
	checkLinksTold(t, 2, "-", nil, nil, 0, 0, 1)
	checkLinksTold(t, 16, "14-15:3 15-14:2", []int{1}, []int{0}, 2, 3, 1)
	checkLinksTold(t, 6, "0-1:5 1-2:3 0-2:4 3-4:9", []int{1, 2, 3}, []int{0, 2, 3}, 16, 18, 1)
	checkLinksTold(t, 7, "5-6:1 0-1:2 6-5:1 1-0:2 3-4:0", []int{0, 1, 4}, []int{0, 1, 4}, 3, 3, 4)
	for n := 1; n <= 16; n++ {
		checkLinks(t, n, nil)
		if impl.CountLeast(n, nil) != 1 || !impl.IsLeast(n, nil, nil) {
			t.Errorf("CountLeast(%d, none) = %d", n, impl.CountLeast(n, nil))
		}
		for k := 1; k <= n; k++ {
			if up, ok := impl.GroupsOf(n, nil, k); !slices.Equal(up, alone(n)) || ok != (k == n) {
				t.Errorf("GroupsOf(%d, none, %d) = %v, %v", n, k, up, ok)
			}
		}
	}
	links := linksFromText(t, "0-1:5 1-2:3 0-2:4 3-4:9")
	for _, p := range []impl.Pair{{A: 0, B: 3}, {A: 4, B: 2}, {A: 5, B: 0}, {A: 4, B: 5}} {
		checkNoWay(t, 6, links, p)
	}
	for k, want := range []string{"", "1 . 1 . 3 .", "1 . 1 . 3 .", "1 . 1 . 3 .", "1 . 1 . . .", ". . 1 . . .", ". . . . . ."} {
		if up, ok := impl.GroupsOf(6, links, k); impl.FormatForest(up) != want || ok != (k >= 3) {
			t.Errorf("GroupsOf(6, %v, %d) = %q, %v", links, k, impl.FormatForest(up), ok)
		}
	}
}

// TestWaysThatAreNarrow looks at weights between two items: the heaviest link of the lightest way.
func TestWaysThatAreNarrow(t *testing.T) {
	for _, c := range []struct {
		text       string
		a, b, want int
	}{
		{"0-1:5 1-2:3 0-2:4", 0, 1, 4}, {"0-1:5 1-2:3 0-2:4", 2, 1, 3}, {"0-1:5 1-2:3 0-2:4", 2, 0, 4},
		{"0-1:0", 0, 1, 0}, {"0-1:0", 1, 0, 0}, {"0-1:99", 1, 0, 99}, {"0-1:99 0-1:98", 0, 1, 98}, {"0-1:7", 2, 2, 0}, {"0-1:7", 0, 0, 0},
		// A long way of light links goes before a short one of heavy links.
		{"0-3:9 0-1:8 1-2:8 2-3:8", 0, 3, 8}, {"0-3:7 0-1:8 1-2:8 2-3:8", 0, 3, 7}, {"0-3:9 0-1:1 1-2:9 2-3:1", 3, 0, 9},
		// Elsewhere there may be heavier links that are as light as that, or lighter ones.
		{"0-1:1 1-2:20 2-3:1", 0, 1, 1}, {"0-1:1 1-2:20 2-3:1", 0, 3, 20}, {"2-3:1 0-1:50 1-2:2", 0, 1, 50},
	} {
		links := linksFromText(t, c.text)
		if narrow, ok := impl.NarrowBetween(4, links, c.a, c.b); narrow != c.want || !ok {
			t.Errorf("NarrowBetween(%q, %d, %d) = %d, %v, not %d", c.text, c.a, c.b, narrow, ok, c.want)
		}
	}
	// The links of LeastJoin alone tell the same between any two items.
	for seed := range 60 {
		n := 2 + seed%15
		links := mixedLinks(n, 24, 30, seed)
		var light []impl.Link
		least, _ := impl.LeastJoin(n, links)
		for _, i := range least {
			light = append(light, links[i])
		}
		for _, p := range everyPair(n) {
			one, okOne := impl.NarrowBetween(n, links, p.A, p.B)
			two, okTwo := impl.NarrowBetween(n, light, p.A, p.B)
			back, okBack := impl.NarrowBetween(n, links, p.B, p.A)
			if one != two || okOne != okTwo || one != back || okOne != okBack {
				t.Fatalf("NarrowBetween(%d, %v, %d, %d) = %d, %v, but %d, %d", n, links, p.A, p.B, one, okOne, two, back)
			}
		}
	}
}

// TestNoOtherLinksJoinAllWithLess holds the promise against all sets of links,
// also of those that are more than need be; and, of many links, against sets
// in which one link takes the place of another one.
func TestNoOtherLinksJoinAllWithLess(t *testing.T) {
	for seed := range 40 {
		n := 2 + seed%7
		links := mixedLinks(n, seed%11, 20, seed)
		least, _ := impl.LeastJoin(n, links)
		low, _ := impl.WeightOf(links, least)
		all := labelsInModel(n, links, func(int) bool { return true })
		everySet(len(links), func(chosen []int) {
			joined := labelsInModel(n, links, func(i int) bool { return slices.Contains(chosen, i) })
			weight, _ := impl.WeightOf(links, chosen)
			if slices.Equal(joined, all) && weight < low || slices.Equal(chosen, least) && !slices.Equal(joined, all) {
				t.Fatalf("LeastJoin(%d, %v) = %v, but %v", n, links, least, chosen)
			}
		})
	}
	for seed := range 60 {
		n := 16 - seed%10
		links := mixedLinks(n, 24, 20, seed)
		least, _ := impl.LeastJoin(n, links)
		low, _ := impl.WeightOf(links, least)
		for _, out := range least {
			for in := range links {
				if slices.Contains(least, in) {
					continue
				}
				other := slices.DeleteFunc(slices.Clone(least), func(i int) bool { return i == out })
				other = append(other, in)
				slices.Sort(other)
				weight, _ := impl.WeightOf(links, other)
				joins := joinsAllInModel(n, links, other)
				if joins && weight < low || impl.IsLeast(n, links, other) != (joins && weight == low) {
					t.Fatalf("LeastJoin(%d, %v) = %v, but %v", n, links, least, other)
				}
			}
		}
	}
}

// TestSetsThatAreNotLeast names what a set of links can lack.
func TestSetsThatAreNotLeast(t *testing.T) {
	links := linksFromText(t, "0-1:2 1-2:2 0-2:2 2-3:5 0-0:2 1-3:5 2-3:6")
	for _, c := range []struct {
		chosen []int
		want   bool
	}{
		{[]int{0, 1, 3}, true}, {[]int{1, 2, 3}, true}, {[]int{0, 2, 5}, true}, {[]int{0, 1, 5}, true},
		// As many and of the same weight, but with a link of one item.
		{[]int{0, 3, 4}, false}, {[]int{1, 4, 5}, false}, {[]int{2, 3, 4}, false},
		// Too light, as they make a ring; too heavy, with a ring and without.
		{[]int{0, 1, 2}, false}, {[]int{1, 3, 5}, false}, {[]int{0, 3, 5}, false}, {[]int{0, 1, 6}, false},
		// Too few, and too many.
		{[]int{0, 1}, false}, {[]int{0, 1, 2, 3}, false}, {[]int{0, 1, 3, 4}, false}, {nil, false},
		// Not in ascending order, more than once, or no links.
		{[]int{1, 0, 3}, false}, {[]int{0, 3, 1}, false}, {[]int{0, 0, 1, 3}, false}, {[]int{0, 1, 3, 3}, false}, {[]int{0, 1, 7}, false}, {[]int{-1, 0, 1}, false},
	} {
		if is := impl.IsLeast(4, links, c.chosen); is != c.want {
			t.Errorf("IsLeast(%v) = %v", c.chosen, is)
		}
	}
	// As many and of the same weight, but with a ring.
	ring := linksFromText(t, "0-1:1 1-2:4 0-2:1 2-3:4 0-1:4")
	if impl.IsLeast(4, ring, []int{0, 2, 4}) || impl.IsLeast(4, ring, []int{0, 1, 2}) || !impl.IsLeast(4, ring, []int{0, 2, 3}) {
		t.Error("IsLeast of links with a ring is true")
	}
	same := linksFromText(t, "0-1:1 0-1:1 2-3:1")
	if impl.IsLeast(4, same, []int{0, 1}) || !impl.IsLeast(4, same, []int{0, 2}) || !impl.IsLeast(4, same, []int{1, 2}) {
		t.Error("IsLeast of two links of the same items is true")
	}
}

// TestLinksThatAreNotValid gives no such number of items, links of no such items, of no such weight, and too many.
func TestLinksThatAreNotValid(t *testing.T) {
	for _, n := range []int{0, -1, 17, 18, math.MinInt, math.MaxInt} {
		checkNoLinks(t, n, nil)
		checkNoLinks(t, n, []impl.Link{{}})
		checkNoLinks(t, n, []impl.Link{{A: 0, B: 1, Weight: 1}})
	}
	for n := 1; n <= 16; n++ {
		most := slices.Repeat([]impl.Link{{A: 0, B: n - 1, Weight: 99}}, 24)
		checkLinks(t, n, most)
		for _, links := range [][]impl.Link{append(most, impl.Link{}), make([]impl.Link, 25), make([]impl.Link, 100000)} {
			checkNoLinks(t, n, links)
			checkNoWeight(t, links)
		}
		for _, none := range noLinksOf(n) {
			for _, links := range [][]impl.Link{{none}, {{A: 0, B: n - 1, Weight: 2}, none}, {none, {A: 0, B: n - 1, Weight: 2}}} {
				checkNoLinks(t, n, links)
				if n == 16 {
					checkNoWeight(t, links)
				}
			}
		}
	}
	// WeightOf knows of no number of items: those of 16 will do.
	checkWeight(t, []impl.Link{{A: 15, B: 15, Weight: 99}, {A: 14, B: 0, Weight: 0}}, []int{0, 1})
	most := slices.Repeat([]impl.Link{{A: 0, B: 15, Weight: 99}}, 24)
	if weight, ok := impl.WeightOf(most, alone(24)); weight != 24*99 || !ok {
		t.Errorf("WeightOf(24 links) = %d, %v", weight, ok)
	}
	// More than 12 links are not tried, whatever they join.
	for count := 13; count <= 24; count++ {
		if got := impl.CountLeast(16, make([]impl.Link, count)); got != -1 {
			t.Errorf("CountLeast(%d links) = %d", count, got)
		}
	}
	if got := impl.CountLeast(16, make([]impl.Link, 12)); got != 1 {
		t.Errorf("CountLeast(12 links) = %d", got)
	}
}

// linksPattern matches the texts of valid links.
var linksPattern = func() *regexp.Regexp {
	const item, weight = `([0-9]|1[0-5])`, `([0-9]|[1-9][0-9])`
	const link = item + `-` + item + `:` + weight
	return regexp.MustCompile(`^(-|` + link + `( ` + link + `){0,23})$`)
}()

// checkLinkText parses a text that may be one of valid links or not.
func checkLinkText(t *testing.T, text string) {
	t.Helper()
	links, ok := impl.ParseLinks(text)
	if ok != linksPattern.MatchString(text) {
		t.Fatalf("ParseLinks(%.60q) = %v, %v", text, links, ok)
	}
	if ok && linksTextInModel(links) != text || !ok && len(links) != 0 {
		t.Fatalf("ParseLinks(%.60q) = %v, %v", text, links, ok)
	}
}

// TestSmallLinkTexts parses every text of up to 7 bytes of some with which links are written.
func TestSmallLinkTexts(t *testing.T) {
	const letters = "-:016 +"
	for length := range 8 {
		everyList(length, 0, len(letters)-1, func(list []int) {
			text := ""
			for _, at := range list {
				text += letters[at : at+1]
			}
			checkLinkText(t, text)
		})
	}
}

// TestSpoiltLinkTexts parses texts of links that are spoilt in one place.
func TestSpoiltLinkTexts(t *testing.T) {
	const letters = "-:+=0159 .\n\x00\xff_x"
	for _, text := range []string{"-", "0-1:5", "0-0:0", "15-10:99", "0-1:5 1-2:3 0-2:4 3-3:1 2-3:8", "3-12:10 10-0:9"} {
		checkLinkText(t, text)
		for at := range len(text) {
			checkLinkText(t, text[:at]+text[at+1:])
			checkLinkText(t, text[:at])
			checkLinkText(t, text[at:])
			for _, letter := range strings.Split(letters, "") {
				checkLinkText(t, text[:at]+letter+text[at+1:])
				checkLinkText(t, text[:at]+letter+text[at:])
				checkLinkText(t, text+letter)
			}
		}
	}
}

func TestLinkTexts(t *testing.T) {
	for seed := range 300 {
		links := mixedLinks(16, seed%25, []int{3, 30, 99}[seed%3], seed)
		text := impl.FormatLinks(links)
		if text != linksTextInModel(links) {
			t.Fatalf("FormatLinks(%v) = %q", links, text)
		}
		if parsed, ok := impl.ParseLinks(text); !ok || !slices.Equal(parsed, links) {
			t.Fatalf("ParseLinks(%q) = %v, %v", text, parsed, ok)
		}
	}
	for _, none := range [][]impl.Link{nil, {}} {
		if text := impl.FormatLinks(none); text != "-" {
			t.Errorf("FormatLinks(none) = %q", text)
		}
	}
	if links, ok := impl.ParseLinks("-"); len(links) != 0 || !ok {
		t.Errorf("ParseLinks(-) = %v, %v", links, ok)
	}
	for item := range 16 {
		for weight := range 100 {
			checkLinkText(t, linksTextInModel([]impl.Link{{A: item, B: 15 - item, Weight: weight}}))
		}
	}
	most := strings.Repeat("15-15:99 ", 23) + "15-15:99"
	if text := impl.FormatLinks(slices.Repeat([]impl.Link{{A: 15, B: 15, Weight: 99}}, 24)); text != most {
		t.Errorf("FormatLinks(24 links) = %q", text)
	}
	checkLinkText(t, most)
	for _, text := range []string{
		"", " ", "--", "- ", " -", "- -", "-\n", ":", "-:", "0", "0-", "0-1", "0-1:", "0:1", "-1:0", "0-:1", "0:1-2", "0-1:2:3", "0-1-2:3", "0-1:2-3", "0-1 2",
		"0-16:1", "16-0:1", "-1-0:1", "0--1:1", "0-1:-1", "0-1:-0", "0-1:100", "0-1:999", "0-1:01", "0-1:00", "00-1:1", "0-01:1", "+0-1:1", "0-+1:1", "0-1:+1",
		"0-1:1 ", " 0-1:1", "0-1:1  1-1:1", "0-1:1 -", "- 0-1:1", "0-1:1\t1-1:1", "0-1:1\n", "0-1:1,1-1:1", "0 - 1 : 1", "0-1: 1", "0−1:1", "０-1:1", "0-1：1",
		"0x1-1:1", "1_0-1:1", "0-1:1_0", "0-1:1.0", "0-1:1e0", "a-1:1", "a-b:c", "0-1:18446744073709551616", "0-18446744073709551616:1", "18446744073709551616-0:1", "4294967296-1:0", "0-1:4294967297",
		"\x00-1:1", "0-1:\xff", most + " 0-1:1", most + " ", most + "-", most + "\n", " " + most,
		strings.Repeat("0-1:1 ", 100000) + "0-1:1", strings.Repeat("0", 100000), strings.Repeat("-", 100000), strings.Repeat(":", 100000),
	} {
		if links, ok := impl.ParseLinks(text); len(links) != 0 || ok {
			t.Errorf("ParseLinks(%.40q) = %v, %v", text, links, ok)
		}
	}
}

// TestWeightsExample is the example of chapter 9.
func TestWeightsExample(t *testing.T) {
	links, ok := impl.ParseLinks("0-1:5 1-2:3 0-2:4")
	if !ok || !slices.Equal(links, []impl.Link{{A: 0, B: 1, Weight: 5}, {A: 1, B: 2, Weight: 3}, {A: 0, B: 2, Weight: 4}}) {
		t.Fatalf("ParseLinks = %v, %v", links, ok)
	}
	least, ok := impl.LeastJoin(3, links)
	checkJoinOf(t, "LeastJoin", 3, links, least, ok, []int{1, 2})
	if weight, ok := impl.WeightOf(links, least); weight != 7 || !ok {
		t.Errorf("WeightOf = %d, %v", weight, ok)
	}
}

// TestWeightsAreNew overwrites results, and looks whether anything else changes.
func TestWeightsAreNew(t *testing.T) {
	memory := []impl.Link{{A: 0, B: 1, Weight: 5}, {A: 1, B: 2, Weight: 3}, {A: 0, B: 2, Weight: 4}, {A: 99, B: 99, Weight: 99}}
	chosenMemory := []int{1, 2, 99}
	before := slices.Clone(memory)
	links, chosen := memory[:3], chosenMemory[:2]
	for range 2 {
		least, _ := impl.LeastJoin(4, links)
		most, _ := impl.MostJoin(4, links)
		some, _ := impl.GroupsOf(4, links, 3)
		all, _ := impl.GroupsOf(4, links, 1)
		weight, _ := impl.WeightOf(links, chosen)
		if !impl.IsLeast(4, links, chosen) || weight != 7 || impl.CountLeast(4, links) != 1 {
			t.Fatalf("IsLeast(%v) = false, WeightOf %d", chosen, weight)
		}
		impl.NarrowBetween(4, links, 0, 1)
		for _, c := range [][2][]int{{least, {1, 2}}, {most, {0, 2}}, {some, {0, 1, 1, 3}}, {all, {1, 1, 1, 3}}} {
			if !slices.Equal(c[0], c[1]) {
				t.Fatalf("%v, not %v", c[0], c[1])
			}
		}
		for _, list := range [][]int{least, most, some, all} {
			overwrite(list)
		}
		parsed, _ := impl.ParseLinks("0-1:5")
		if !slices.Equal(parsed, memory[:1]) {
			t.Fatalf("ParseLinks = %v", parsed)
		}
		parsed[:cap(parsed)][0] = impl.Link{A: -7, B: -7, Weight: -7}
	}
	if !slices.Equal(memory, before) || !slices.Equal(chosenMemory, []int{1, 2, 99}) {
		t.Errorf("the links have become %v, and the chosen ones %v", memory, chosenMemory)
	}
}
