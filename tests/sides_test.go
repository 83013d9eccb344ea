package tests

import (
	"math"
	"slices"
	"testing"

	"loop.example/linkedroots/impl"
)

// The expectations for many pairs come from this model. It tries all sides, and
// makes ways longer as long as there is a better one; it knows no classes.

// A standing has a bit for each item: its side.
type standing int

func (s standing) side(item int) int { return int(s) >> item & 1 }

// standingsInModel returns all ways in which n items can stand so.
func standingsInModel(n int, pairs []impl.Pair) []standing {
	var fitting []standing
	for s := range standing(1 << n) {
		split := func(p impl.Pair) bool { return s.side(p.A) != s.side(p.B) }
		if !slices.ContainsFunc(pairs, func(p impl.Pair) bool { return !split(p) }) {
			fitting = append(fitting, s)
		}
	}
	return fitting
}

// sidesInModel returns of these standings the one in which items are on the
// side 0 as early as can be: no class then has its least item on the side 1.
func sidesInModel(n int, fitting []standing) []int {
	var least []int
	for _, s := range fitting {
		sides := make([]int, n)
		for item := range sides {
			sides[item] = s.side(item)
		}
		if least == nil || slices.Compare(sides, least) < 0 {
			least = sides
		}
	}
	return least
}

// friendsInModel tells of two items what is the same in all these standings.
func friendsInModel(fitting []standing, a, b int) string {
	same, other := false, false
	for _, s := range fitting {
		if s.side(a) == s.side(b) {
			same = true
		} else {
			other = true
		}
	}
	switch {
	case same && other:
		return "open"
	case same:
		return "same"
	case other:
		return "other"
	}
	return ""
}

// firstOddInModel returns how many first pairs fit, or -1 if all do.
func firstOddInModel(n int, pairs []impl.Pair) int {
	for count := range len(pairs) {
		if len(standingsInModel(n, pairs[:count+1])) == 0 {
			return count
		}
	}
	return -1
}

// betterWay reports whether a way has fewer items, or as many and lesser ones first.
func betterWay(way, than []int) bool {
	if than == nil || len(way) != len(than) {
		return than == nil || len(way) < len(than)
	}
	return slices.Compare(way, than) < 0
}

// waysInModel returns the best way from an item to each one, nil if there is none.
func waysInModel(n int, pairs []impl.Pair, from int) [][]int {
	ways := make([][]int, n)
	ways[from] = []int{from}
	extend := func(by, to int) bool {
		if ways[by] == nil {
			return false
		}
		way := append(slices.Clone(ways[by]), to)
		if !betterWay(way, ways[to]) {
			return false
		}
		ways[to] = way
		return true
	}
	for changed := true; changed; {
		changed = false
		for _, p := range pairs {
			forth, back := extend(p.A, p.B), extend(p.B, p.A)
			changed = changed || forth || back
		}
	}
	return ways
}

// isWay reports whether each two items of a way that follow one another are a pair.
func isWay(pairs []impl.Pair, way []int) bool {
	for i := range len(way) - 1 {
		there, back := impl.Pair{A: way[i], B: way[i+1]}, impl.Pair{A: way[i+1], B: way[i]}
		if !slices.Contains(pairs, there) && !slices.Contains(pairs, back) {
			return false
		}
	}
	return true
}

// pairsFromText returns the pairs that are written as a text.
func pairsFromText(t *testing.T, text string) []impl.Pair {
	t.Helper()
	pairs, ok := impl.ParsePairs(text)
	if !ok {
		t.Fatalf("ParsePairs(%q) = false", text)
	}
	return pairs
}

// checkSides checks all that is told of valid pairs of n items.
func checkSides(t *testing.T, n int, pairs []impl.Pair) {
	t.Helper()
	before := slices.Clone(pairs)
	fitting := standingsInModel(n, pairs)
	checkSplit(t, n, pairs, fitting)
	checkOdd(t, n, pairs, firstOddInModel(n, pairs))
	for a := range n {
		ways := waysInModel(n, pairs, a)
		for b := range n {
			want := friendsInModel(fitting, a, b)
			if friends := impl.FriendsOf(n, pairs, a, b); friends != want {
				t.Fatalf("FriendsOf(%d, %v, %d, %d) = %q, not %q", n, pairs, a, b, friends, want)
			}
			way, ok := impl.WayBetween(n, pairs, a, b)
			if !slices.Equal(way, ways[b]) || ok != (ways[b] != nil) {
				t.Fatalf("WayBetween(%d, %v, %d, %d) = %v, %v, not %v", n, pairs, a, b, way, ok, ways[b])
			}
		}
	}
	for _, none := range noItemsOf(n) {
		for _, p := range []impl.Pair{{A: 0, B: none}, {A: none, B: 0}, {A: none, B: none}, {A: n - 1, B: none}} {
			checkNotAsked(t, n, pairs, p)
		}
	}
	if !slices.Equal(pairs, before) {
		t.Fatalf("%v has become %v", before, pairs)
	}
}

// checkSplit holds the sides against all standings that fit.
func checkSplit(t *testing.T, n int, pairs []impl.Pair, fitting []standing) {
	t.Helper()
	can := len(fitting) > 0
	if impl.CanSplit(n, pairs) != can {
		t.Fatalf("CanSplit(%d, %v) = %v", n, pairs, !can)
	}
	if count := impl.CountSplits(n, pairs); count != len(fitting) {
		t.Fatalf("CountSplits(%d, %v) = %d, not %d", n, pairs, count, len(fitting))
	}
	want := sidesInModel(n, fitting)
	if sides, ok := impl.SidesOf(n, pairs); ok != can || !slices.Equal(sides, want) {
		t.Fatalf("SidesOf(%d, %v) = %v, %v, not %v", n, pairs, sides, ok, want)
	}
}

// checkOdd checks the first pair that does not fit, and the ring that it makes.
func checkOdd(t *testing.T, n int, pairs []impl.Pair, want int) {
	t.Helper()
	if odd, ok := impl.FirstOdd(n, pairs); odd != want || !ok {
		t.Fatalf("FirstOdd(%d, %v) = %d, %v, not %d", n, pairs, odd, ok, want)
	}
	ring, ok := impl.OddRing(n, pairs)
	if want < 0 {
		if len(ring) != 0 || ok {
			t.Fatalf("OddRing(%d, %v) = %v, %v", n, pairs, ring, ok)
		}
		return
	}
	last := pairs[want]
	if best := waysInModel(n, pairs[:want], last.A)[last.B]; !ok || !slices.Equal(ring, best) {
		t.Fatalf("OddRing(%d, %v) = %v, %v, not %v", n, pairs, ring, ok, best)
	}
	// Whatever the model says: with the last pair, this is a ring, and odd.
	closed := append(slices.Clone(ring), ring[0])
	if len(ring)%2 != 1 || ring[0] != last.A || ring[len(ring)-1] != last.B || !isWay(pairs[:want+1], closed) {
		t.Fatalf("OddRing(%d, %v) = %v is no odd ring", n, pairs, ring)
	}
}

// checkNotAsked checks that nothing is told of two items that are not both there.
func checkNotAsked(t *testing.T, n int, pairs []impl.Pair, p impl.Pair) {
	t.Helper()
	if friends := impl.FriendsOf(n, pairs, p.A, p.B); friends != "" {
		t.Fatalf("FriendsOf(%d, %v, %d, %d) = %q", n, pairs, p.A, p.B, friends)
	}
	if way, ok := impl.WayBetween(n, pairs, p.A, p.B); len(way) != 0 || ok {
		t.Fatalf("WayBetween(%d, %v, %d, %d) = %v, %v", n, pairs, p.A, p.B, way, ok)
	}
}

// checkNoSides checks that nothing is told for invalid arguments.
func checkNoSides(t *testing.T, n int, pairs []impl.Pair) {
	t.Helper()
	if impl.CanSplit(n, pairs) {
		t.Fatalf("CanSplit(%d, %v) = true", n, pairs)
	}
	if sides, ok := impl.SidesOf(n, pairs); len(sides) != 0 || ok {
		t.Fatalf("SidesOf(%d, %v) = %v, %v", n, pairs, sides, ok)
	}
	if odd, ok := impl.FirstOdd(n, pairs); odd != -1 || ok {
		t.Fatalf("FirstOdd(%d, %v) = %d, %v", n, pairs, odd, ok)
	}
	if ring, ok := impl.OddRing(n, pairs); len(ring) != 0 || ok {
		t.Fatalf("OddRing(%d, %v) = %v, %v", n, pairs, ring, ok)
	}
	if count := impl.CountSplits(n, pairs); count != -1 {
		t.Fatalf("CountSplits(%d, %v) = %d", n, pairs, count)
	}
	for _, p := range []impl.Pair{{A: 0, B: 0}, {A: 0, B: 1}, {A: 1, B: 0}, {A: 0, B: n - 1}, {A: n, B: n}, {A: -1, B: 16}} {
		checkNotAsked(t, n, pairs, p)
	}
}

// TestSidesOfFewPairs looks at every list of few pairs of few items.
func TestSidesOfFewPairs(t *testing.T) {
	for i, most := range []int{5, 4, 3, 3, 2} {
		for count := range most + 1 {
			everyPairs(i+1, count, func(pairs []impl.Pair) { checkSides(t, i+1, pairs) })
		}
	}
}

// TestSidesOfEveryNet looks at all sets of pairs of different items of up to 5 items.
func TestSidesOfEveryNet(t *testing.T) {
	for n := 2; n <= 5; n++ {
		apart := slices.DeleteFunc(everyPair(n), func(p impl.Pair) bool { return p.A >= p.B })
		everyList(len(apart), 0, 1, func(chosen []int) {
			var pairs []impl.Pair
			for i, p := range apart {
				if chosen[i] == 1 {
					pairs = append(pairs, p)
				}
			}
			checkSides(t, n, pairs)
			// The last pairs first, and the other way around.
			slices.Reverse(pairs)
			for i, p := range pairs {
				pairs[i] = impl.Pair{A: p.B, B: p.A}
			}
			checkSides(t, n, pairs)
		})
	}
}

// acrossPairs returns pairs of n items that have one item on either side, if
// items stand by a short rule: another one for each seed.
func acrossPairs(n, count, seed int) []impl.Pair {
	var side [16]int
	for item, p := range mixedPairs(2, n, seed+900) {
		side[item] = p.A
	}
	pairs := mixedPairs(n, 40*count, seed)
	pairs = slices.DeleteFunc(pairs, func(p impl.Pair) bool { return side[p.A] == side[p.B] })
	return pairs[:min(count, len(pairs))]
}

// TestSidesOfManyPairs looks at lists of up to 24 pairs of up to 10 items.
func TestSidesOfManyPairs(t *testing.T) {
	for seed := range 60 {
		for n := 1; n <= 10; n++ {
			checkSides(t, n, mixedPairs(n, seed%25, seed))
			fitting := acrossPairs(n, seed%25, seed)
			checkSides(t, n, fitting)
			if len(fitting) < 24 {
				checkSides(t, n, append(fitting, mixedPairs(n, 1, seed)...))
			}
		}
	}
}

// TestSidesOfManyItems looks at lists of pairs of up to 16 items.
func TestSidesOfManyItems(t *testing.T) {
	for seed := range 12 {
		n := 16 - seed%3
		checkSides(t, n, mixedPairs(n, 2*seed, seed))
		fitting := acrossPairs(n, 22, seed)
		checkSides(t, n, fitting)
		checkSides(t, n, append(fitting, mixedPairs(n, 2, seed)...))
	}
}

// ringOf returns the pairs of a ring of the first n items.
func ringOf(n int) []impl.Pair {
	pairs := make([]impl.Pair, n)
	for item := range pairs {
		pairs[item] = impl.Pair{A: item, B: (item + 1) % n}
	}
	return pairs
}

// TestRingsOfEveryLength looks at rings alone: of one item and of two, too.
func TestRingsOfEveryLength(t *testing.T) {
	for n := 1; n <= 16; n++ {
		pairs := ringOf(n)
		checkOddRing(t, 16, pairs, n)
		for turn := range n {
			turned := slices.Concat(pairs[turn:], pairs[:turn])
			checkOddRing(t, n, turned, n)
			slices.Reverse(turned)
			checkOddRing(t, n, turned, n)
		}
		// Its last pair told again, either way around, makes no other ring.
		last := pairs[n-1]
		checkOddRing(t, n, append(ringOf(n), last), n)
		checkOddRing(t, n, append(ringOf(n), impl.Pair{A: last.B, B: last.A}), n)
	}
	// One that is cut short by a pair is made of an odd and an even one.
	for n := 5; n <= 15; n += 2 {
		for from := range n - 2 {
			short := append([]impl.Pair{{A: from, B: from + 2}}, ringOf(n)...)
			checkOdd(t, n, short, from+2)
			if ring, ok := impl.OddRing(n, short); !ok || !slices.Equal(ring, []int{from + 1, from, from + 2}) {
				t.Fatalf("OddRing(%d, %v) = %v, %v", n, short, ring, ok)
			}
		}
	}
}

// checkOddRing checks what is told of pairs that make one ring of so many items.
func checkOddRing(t *testing.T, n int, pairs []impl.Pair, length int) {
	t.Helper()
	if length%2 == 0 {
		if odd, ok := impl.FirstOdd(n, pairs); odd != -1 || !ok || !impl.CanSplit(n, pairs) {
			t.Fatalf("FirstOdd(%d, %v) = %d, %v", n, pairs, odd, ok)
		}
		return
	}
	checkOdd(t, n, pairs, length-1)
	if ring, ok := impl.OddRing(n, pairs); len(ring) != length || !ok || impl.CanSplit(n, pairs) {
		t.Fatalf("OddRing(%d, %v) = %v, %v", n, pairs, ring, ok)
	}
}

// TestPairsOfOneItem has the first case to watch: nobody is on two sides.
func TestPairsOfOneItem(t *testing.T) {
	for n := 1; n <= 16; n++ {
		for item := range n {
			one := impl.Pair{A: item, B: item}
			for at := range 4 {
				ahead := acrossPairs(n, at, item)
				pairs := append(slices.Clone(ahead), one, one, impl.Pair{A: 0, B: n - 1})
				checkOdd(t, n, pairs, len(ahead))
				if ring, ok := impl.OddRing(n, pairs); !slices.Equal(ring, []int{item}) || !ok {
					t.Fatalf("OddRing(%d, %v) = %v, %v", n, pairs, ring, ok)
				}
				checkSplit(t, n, pairs, nil)
				for other := range n {
					if friends := impl.FriendsOf(n, pairs, item, other); friends != "" {
						t.Fatalf("FriendsOf(%d, %v, %d, %d) = %q", n, pairs, item, other, friends)
					}
				}
			}
			// A way does not stay where it is.
			if way, ok := impl.WayBetween(n, []impl.Pair{one, one}, item, item); !slices.Equal(way, []int{item}) || !ok {
				t.Fatalf("WayBetween(%d, %v, %d, %d) = %v, %v", n, one, item, item, way, ok)
			}
		}
	}
	// There are ways all the same, and the ring is that of the first pair that does not fit.
	pairs := pairsFromText(t, "0-1 2-2 1-2 2-0 3-3")
	checkSides(t, 4, pairs)
	checkWay(t, 4, pairs, 0, 2, 0, 2)
	checkWay(t, 4, pairs, 2, 2, 2)
	checkWay(t, 4, pairs, 3, 0)
	if ring, ok := impl.OddRing(4, pairs); !slices.Equal(ring, []int{2}) || !ok {
		t.Errorf("OddRing = %v, %v", ring, ok)
	}
	if ring, ok := impl.OddRing(4, pairsFromText(t, "0-1 1-2 2-0 2-2")); !slices.Equal(ring, []int{2, 1, 0}) || !ok {
		t.Errorf("OddRing = %v, %v", ring, ok)
	}
}

// TestClassesOfOneItem has the second case to watch: who stands alone stands on the side 0, or could on either.
func TestClassesOfOneItem(t *testing.T) {
	for n := 1; n <= 16; n++ {
		sides, ok := impl.SidesOf(n, nil)
		if !ok || !slices.Equal(sides, make([]int, n)) || !impl.CanSplit(n, nil) {
			t.Errorf("SidesOf(%d, none) = %v, %v", n, sides, ok)
		}
		if count := impl.CountSplits(n, nil); count != 1<<n {
			t.Errorf("CountSplits(%d, none) = %d", n, count)
		}
		checkOdd(t, n, nil, -1)
		for _, p := range everyPair(n) {
			checkAlone(t, n, p)
			if p.A != p.B {
				checkOnePair(t, n, p)
			}
		}
	}
}

// checkAlone checks what is told of two items without pairs.
func checkAlone(t *testing.T, n int, p impl.Pair) {
	t.Helper()
	want := "open"
	if p.A == p.B {
		want = "same"
		checkWay(t, n, nil, p.A, p.B, p.A)
	} else {
		checkWay(t, n, nil, p.A, p.B)
	}
	if friends := impl.FriendsOf(n, nil, p.A, p.B); friends != want {
		t.Fatalf("FriendsOf(%d, none, %d, %d) = %q", n, p.A, p.B, friends)
	}
}

// checkOnePair checks the sides if there is only one pair, of two items.
func checkOnePair(t *testing.T, n int, p impl.Pair) {
	t.Helper()
	want := make([]int, n)
	want[max(p.A, p.B)] = 1
	if sides, ok := impl.SidesOf(n, []impl.Pair{p}); !ok || !slices.Equal(sides, want) {
		t.Fatalf("SidesOf(%d, %v) = %v, %v", n, p, sides, ok)
	}
	if count := impl.CountSplits(n, []impl.Pair{p}); count != 1<<(n-1) {
		t.Fatalf("CountSplits(%d, %v) = %d", n, p, count)
	}
	if friends := impl.FriendsOf(n, []impl.Pair{p}, p.B, p.A); friends != "other" {
		t.Fatalf("FriendsOf(%d, %v) = %q", n, p, friends)
	}
	checkWay(t, n, []impl.Pair{p}, p.B, p.A, p.B, p.A)
}

// checkWay checks the way from one item to another one: no items if there is none.
func checkWay(t *testing.T, n int, pairs []impl.Pair, a, b int, want ...int) {
	t.Helper()
	if way, ok := impl.WayBetween(n, pairs, a, b); !slices.Equal(way, want) || ok != (len(want) > 0) {
		t.Errorf("WayBetween(%d, %v, %d, %d) = %v, %v, not %v", n, pairs, a, b, way, ok, want)
	}
}

// TestWaysOfTheSameLength has the third case to watch: the first item that is not the same decides.
func TestWaysOfTheSameLength(t *testing.T) {
	for _, c := range []struct {
		n     int
		pairs string
		a, b  int
		want  []int
	}{
		{4, "0-2 0-1 2-3 1-3", 0, 3, []int{0, 1, 3}},
		{4, "0-2 0-1 2-3 1-3", 3, 0, []int{3, 1, 0}},
		{4, "3-1 3-2 1-0 2-0", 1, 2, []int{1, 0, 2}},
		// The way back is not the same one turned around.
		{6, "0-1 0-2 1-4 2-3 4-5 3-5", 0, 5, []int{0, 1, 4, 5}},
		{6, "0-1 0-2 1-4 2-3 4-5 3-5", 5, 0, []int{5, 3, 2, 0}},
		// The least item beside the first one leads nowhere, or farther around.
		{6, "0-1 0-2 2-3 0-4 4-3", 0, 3, []int{0, 2, 3}},
		{6, "0-1 1-2 2-5 0-4 4-5 0-3 3-5", 0, 5, []int{0, 3, 5}},
		{6, "5-0 0-1 1-4 5-2 2-4 5-3 3-4", 5, 4, []int{5, 2, 4}},
		// Both have the same item at the second place, and differ at the third one.
		{7, "0-1 1-3 1-2 3-6 2-6 0-5 5-4 4-6", 0, 6, []int{0, 1, 2, 6}},
		{7, "0-1 1-5 1-4 5-6 4-6 0-2 2-3 3-6", 0, 6, []int{0, 1, 4, 6}},
		// A shorter way goes before one with lesser items.
		{5, "4-0 0-1 1-3 4-2 2-3", 4, 3, []int{4, 2, 3}},
		{5, "4-0 0-1 1-3 4-3", 4, 3, []int{4, 3}},
		{5, "3-4 4-0 0-1 1-3", 3, 4, []int{3, 4}},
		// Pairs that are told again, and in either direction.
		{4, "2-0 2-0 0-2 1-0 3-2 3-2 3-1", 0, 3, []int{0, 1, 3}},
		{4, "0-0 0-2 2-2 2-3 3-3", 0, 3, []int{0, 2, 3}},
		// Numbers of two digits are greater than those of one.
		{16, "0-10 0-9 10-15 9-15", 0, 15, []int{0, 9, 15}},
		{16, "2-10 2-9 10-1 9-1", 2, 1, []int{2, 9, 1}},
	} {
		checkWay(t, c.n, pairsFromText(t, c.pairs), c.a, c.b, c.want...)
	}
	// Odd rings are such ways, too.
	for _, c := range []struct {
		n     int
		pairs string
		want  []int
	}{
		{4, "0-2 0-1 2-3 1-3 0-3", []int{0, 1, 3}},
		{4, "0-2 0-1 2-3 1-3 3-0", []int{3, 1, 0}},
		{9, "0-2 2-3 3-4 4-8 0-1 1-5 5-6 6-8 0-8", []int{0, 1, 5, 6, 8}},
		{9, "0-2 2-3 3-4 4-8 0-1 1-5 5-6 6-8 8-0", []int{8, 4, 3, 2, 0}},
		// A pair behind it makes no way shorter, and none better.
		{9, "0-2 2-3 3-4 4-8 0-8 8-2 0-1 1-5 5-6 6-8", []int{0, 2, 3, 4, 8}},
	} {
		if ring, ok := impl.OddRing(c.n, pairsFromText(t, c.pairs)); !ok || !slices.Equal(ring, c.want) {
			t.Errorf("OddRing(%q) = %v, %v, not %v", c.pairs, ring, ok, c.want)
		}
	}
}

// TestLongWays looks at items one beside the other, in both directions.
func TestLongWays(t *testing.T) {
	for n := 2; n <= 16; n++ {
		pairs := ringOf(n)[:n-1]
		forth := alone(n)
		back := alone(n)
		slices.Reverse(back)
		checkWay(t, n, pairs, 0, n-1, forth...)
		checkWay(t, n, pairs, n-1, 0, back...)
		want := make([]int, n)
		for item := range want {
			want[item] = item % 2
		}
		if sides, ok := impl.SidesOf(n, pairs); !ok || !slices.Equal(sides, want) {
			t.Errorf("SidesOf(%d, %v) = %v, %v", n, pairs, sides, ok)
		}
		if count := impl.CountSplits(n, pairs); count != 2 {
			t.Errorf("CountSplits(%d, %v) = %d", n, pairs, count)
		}
	}
}

// TestSidesOfNoValidPairs gives no such number of items, pairs of no such items, and too many.
func TestSidesOfNoValidPairs(t *testing.T) {
	for _, n := range []int{0, -1, 17, 18, math.MinInt, math.MaxInt} {
		checkNoSides(t, n, nil)
		checkNoSides(t, n, []impl.Pair{{}})
		checkNoSides(t, n, []impl.Pair{{A: 0, B: 1}})
	}
	for n := 1; n <= 16; n++ {
		most := acrossPairs(n, 24, n)
		checkOdd(t, n, most, -1)
		checkNoSides(t, n, slices.Repeat([]impl.Pair{{A: 0, B: n - 1}}, 25))
		checkNoSides(t, n, make([]impl.Pair, 100000))
		for _, none := range noItemsOf(n) {
			for _, p := range []impl.Pair{{A: none}, {B: none}, {A: none, B: none}, {A: n - 1, B: none}, {A: none, B: n - 1}} {
				checkNoSides(t, n, []impl.Pair{p})
				checkNoSides(t, n, []impl.Pair{{A: 0, B: n - 1}, p})
				// Also behind one that does not fit.
				checkNoSides(t, n, []impl.Pair{{}, p})
			}
		}
	}
	checkOdd(t, 2, slices.Repeat([]impl.Pair{{A: 0, B: 1}}, 24), -1)
	checkNoSides(t, 2, slices.Repeat([]impl.Pair{{A: 0, B: 1}}, 25))
}

// TestFriends asks of items on the same side, on the other one, and of those of which nothing is told.
func TestFriends(t *testing.T) {
	pairs := pairsFromText(t, "0-1 1-2 3-4 5-4 2-6")
	for _, c := range []struct {
		a, b int
		want string
	}{
		{0, 0, "same"}, {0, 1, "other"}, {0, 2, "same"}, {2, 0, "same"}, {6, 0, "other"}, {6, 1, "same"}, {3, 5, "same"}, {3, 4, "other"},
		{0, 3, "open"}, {4, 0, "open"}, {7, 0, "open"}, {7, 7, "same"}, {0, 8, ""}, {-1, 0, ""}, {8, 8, ""}, {-1, -1, ""},
	} {
		if friends := impl.FriendsOf(8, pairs, c.a, c.b); friends != c.want {
			t.Errorf("FriendsOf(%d, %d) = %q, not %q", c.a, c.b, friends, c.want)
		}
	}
	// An odd ring elsewhere is enough: nobody is told a side then.
	odd := append(pairs, impl.Pair{A: 3, B: 5})
	for _, p := range everyPair(8) {
		if friends := impl.FriendsOf(8, odd, p.A, p.B); friends != "" {
			t.Errorf("FriendsOf(%d, %d) = %q", p.A, p.B, friends)
		}
	}
}

// TestItemsStandOnTwoSidesIfNoRingIsOdd holds the promise: pairs fit until the
// first one that makes an odd ring, and not any more from then on.
func TestItemsStandOnTwoSidesIfNoRingIsOdd(t *testing.T) {
	for seed := range 200 {
		n := 16 - seed%8
		pairs := mixedPairs(n, 24, seed)
		if seed%2 == 0 {
			pairs = append(acrossPairs(n, 20, seed), mixedPairs(n, 4, seed)...)
		}
		odd, ok := impl.FirstOdd(n, pairs)
		for count := range len(pairs) + 1 {
			fits := odd < 0 || count <= odd
			sides, stand := impl.SidesOf(n, pairs[:count])
			if !ok || stand != fits || impl.CanSplit(n, pairs[:count]) != fits || (impl.CountSplits(n, pairs[:count]) > 0) != fits {
				t.Fatalf("FirstOdd(%d, %v) = %d, %v, but the first %d", n, pairs, odd, ok, count)
			}
			for _, p := range pairs[:count] {
				if fits && (sides[p.A] == sides[p.B] || impl.FriendsOf(n, pairs[:count], p.A, p.B) != "other") {
					t.Fatalf("SidesOf(%d, %v) = %v", n, pairs[:count], sides)
				}
			}
			if fits && impl.CountSplits(n, pairs[:count]) != 1<<impl.CountClasses(n, pairs[:count]) {
				t.Fatalf("CountSplits(%d, %v) = %d", n, pairs[:count], impl.CountSplits(n, pairs[:count]))
			}
		}
		if odd >= 0 {
			checkOdd(t, n, pairs, odd)
		}
	}
}

// TestSidesExample is the example of chapter 6.
func TestSidesExample(t *testing.T) {
	pairs := pairsFromText(t, "0-1 1-2 2-0")
	checkOdd(t, 3, pairs, 2)
	if ring, ok := impl.OddRing(3, pairs); !ok || !slices.Equal(ring, []int{2, 1, 0}) {
		t.Errorf("OddRing = %v, %v", ring, ok)
	}
}

// TestSidesAreNew overwrites results, and looks whether anything else changes.
func TestSidesAreNew(t *testing.T) {
	memory := []impl.Pair{{A: 0, B: 1}, {A: 1, B: 2}, {A: 3, B: 4}, {A: 2, B: 0}, {A: 99, B: 99}}
	before := slices.Clone(memory)
	for range 2 {
		sides, _ := impl.SidesOf(5, memory[:3])
		way, _ := impl.WayBetween(5, memory[:4], 2, 1)
		short, _ := impl.WayBetween(5, memory[:4], 3, 3)
		ring, _ := impl.OddRing(5, memory[:4])
		impl.FirstOdd(5, memory[:4])
		impl.CountSplits(5, memory[:4])
		impl.FriendsOf(5, memory[:3], 0, 4)
		for _, c := range [][2][]int{{sides, {0, 1, 0, 0, 1}}, {way, {2, 1}}, {short, {3}}, {ring, {2, 1, 0}}} {
			if !slices.Equal(c[0], c[1]) {
				t.Fatalf("%v, not %v", c[0], c[1])
			}
		}
		for _, list := range [][]int{sides, way, short, ring} {
			overwrite(list)
		}
	}
	if !slices.Equal(memory, before) {
		t.Errorf("the pairs have become %v", memory)
	}
}
