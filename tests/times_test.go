package tests

import (
	"math"
	"slices"
	"strconv"
	"strings"
	"testing"

	"loop.example/linkedroots/impl"
)

// The expectations for many timed forests come from this model. It makes a list
// of links for each time, and looks through them from the first one on.

// momentsInModel are all times, and noMoments some that are none.
const momentsInModel = 25

func noMoments() []int { return []int{-1, -2, 25, 26, math.MinInt, math.MaxInt} }

func timedValidInModel(x impl.Timed) bool {
	if !validInModel(x.Up) || len(x.At) != len(x.Up) {
		return false
	}
	for item, above := range x.Up {
		switch {
		case above == item && x.At[item] != 0:
			return false
		case above != item && (x.At[item] < 1 || x.At[item] > 24):
			return false
		case above != item && x.Up[above] != above && x.At[item] >= x.At[above]:
			return false
		}
	}
	return true
}

// forestAtInModel returns the links of a valid timed forest at a time.
func forestAtInModel(x impl.Timed, time int) []int {
	up := alone(len(x.Up))
	for item, at := range x.At {
		if at <= time {
			up[item] = x.Up[item]
		}
	}
	return up
}

// timedInModel returns the timed forest of valid pairs: whatever link is another
// one behind a pair has been made by it.
func timedInModel(n int, pairs []impl.Pair) impl.Timed {
	x := impl.Timed{Up: alone(n), At: make([]int, n)}
	for i, p := range pairs {
		joined, apart := joinInModel(x.Up, impl.Size, p.A, p.B)
		if !apart {
			continue
		}
		for item, above := range joined {
			if above != x.Up[item] {
				x.At[item] = i + 1
			}
		}
		x.Up = joined
	}
	return x
}

// sinceInModel returns the time of the last link on the way between two items
// that is made, which leads over the first item on both ways up; -1 if there is none.
func sinceInModel(x impl.Timed, a, b int) int {
	wayOfA, wayOfB := wayInModel(x.Up, a), wayInModel(x.Up, b)
	if wayOfA[len(wayOfA)-1] != wayOfB[len(wayOfB)-1] {
		return -1
	}
	since := 0
	for _, item := range slices.Concat(wayOfA, wayOfB) {
		if !slices.Contains(wayOfA, item) || !slices.Contains(wayOfB, item) {
			since = max(since, x.At[item])
		}
	}
	return since
}

func timedTextInModel(x impl.Timed) string {
	text := ""
	for item, above := range x.Up {
		if item > 0 {
			text += " "
		}
		if above == item {
			text += "."
		} else {
			text += strconv.Itoa(above) + "@" + strconv.Itoa(x.At[item])
		}
	}
	return text
}

func cloneTimed(x impl.Timed) impl.Timed {
	return impl.Timed{Up: slices.Clone(x.Up), At: slices.Clone(x.At)}
}

func sameTimed(a, b impl.Timed) bool {
	return slices.Equal(a.Up, b.Up) && slices.Equal(a.At, b.At)
}

// mixedTimes returns a valid timed forest of these links, with other times for
// each seed. Below an item there has to be room for the times of those below it.
func mixedTimes(up []int, seed int) impl.Timed {
	x := impl.Timed{Up: up, At: make([]int, len(up))}
	heights := heightsInModel(up)
	mixed := mixedPairs(24, len(up), seed)
	var timeOf func(item int) int
	timeOf = func(item int) int {
		if up[item] == item {
			return 25
		}
		least, most := heights[item]+1, timeOf(up[item])-1
		x.At[item] = least + mixed[item].A%(most-least+1)
		return x.At[item]
	}
	for item := range up {
		timeOf(item)
	}
	return x
}

// checkTimed checks all that is told of a valid timed forest.
func checkTimed(t *testing.T, x impl.Timed) {
	t.Helper()
	before := cloneTimed(x)
	if !impl.TimedValid(x) {
		t.Fatalf("TimedValid(%v) = false", x)
	}
	if text := impl.FormatTimed(x); text != timedTextInModel(x) {
		t.Fatalf("FormatTimed(%v) = %q", x, text)
	}
	for time := range momentsInModel {
		checkMoment(t, x, time)
	}
	for _, time := range noMoments() {
		checkNoMoment(t, x, time)
	}
	checkSince(t, x)
	if !sameTimed(x, before) {
		t.Fatalf("%v has become %v", before, x)
	}
}

// checkMoment checks what is told of a valid timed forest at a time.
func checkMoment(t *testing.T, x impl.Timed, time int) {
	t.Helper()
	want := forestAtInModel(x, time)
	if up, ok := impl.ForestAt(x, time); !ok || !slices.Equal(up, want) {
		t.Fatalf("ForestAt(%v, %d) = %v, %v, not %v", x, time, up, ok, want)
	}
	if count := impl.ClassesAt(x, time); count != len(classesInModel(want)) {
		t.Fatalf("ClassesAt(%v, %d) = %d", x, time, count)
	}
	roots := make([]int, len(want))
	for item := range want {
		roots[item], _ = rootInModel(want, item)
		if root := impl.RootAt(x, item, time); root != roots[item] {
			t.Fatalf("RootAt(%v, %d, %d) = %d, not %d", x, item, time, root, roots[item])
		}
	}
	for _, p := range everyPair(len(want)) {
		if together := impl.TogetherAt(x, p.A, p.B, time); together != (roots[p.A] == roots[p.B]) {
			t.Fatalf("TogetherAt(%v, %d, %d, %d) = %v", x, p.A, p.B, time, together)
		}
	}
	for _, none := range noItemsOf(len(want)) {
		checkNoItemAt(t, x, none, time)
	}
}

// checkNoItemAt checks what is told of an item that there is not at a time.
func checkNoItemAt(t *testing.T, x impl.Timed, none, time int) {
	t.Helper()
	if root := impl.RootAt(x, none, time); root != -1 {
		t.Fatalf("RootAt(%v, %d, %d) = %d", x, none, time, root)
	}
	for _, p := range []impl.Pair{{A: 0, B: none}, {A: none, B: 0}, {A: none, B: none}} {
		if impl.TogetherAt(x, p.A, p.B, time) {
			t.Fatalf("TogetherAt(%v, %d, %d, %d) = true", x, p.A, p.B, time)
		}
	}
}

// checkNoMoment checks what is told at a time that is none, or of a timed forest that is not valid.
func checkNoMoment(t *testing.T, x impl.Timed, time int) {
	t.Helper()
	if up, ok := impl.ForestAt(x, time); len(up) != 0 || ok {
		t.Fatalf("ForestAt(%v, %d) = %v, %v", x, time, up, ok)
	}
	if count := impl.ClassesAt(x, time); count != -1 {
		t.Fatalf("ClassesAt(%v, %d) = %d", x, time, count)
	}
	for _, item := range []int{0, 1, len(x.Up) - 1, len(x.Up), -1} {
		checkNoItemAt(t, x, item, time)
	}
}

// checkSince checks SinceWhen of a valid timed forest for all pairs of items.
func checkSince(t *testing.T, x impl.Timed) {
	t.Helper()
	for _, p := range everyPair(len(x.Up)) {
		since := impl.SinceWhen(x, p.A, p.B)
		if want := sinceInModel(x, p.A, p.B); since != want {
			t.Fatalf("SinceWhen(%v, %d, %d) = %d, not %d", x, p.A, p.B, since, want)
		}
	}
	for _, none := range noItemsOf(len(x.Up)) {
		checkNotSince(t, x, none, none)
		checkNotSince(t, x, 0, none)
		checkNotSince(t, x, none, len(x.Up)-1)
	}
}

func checkNotSince(t *testing.T, x impl.Timed, a, b int) {
	t.Helper()
	if since := impl.SinceWhen(x, a, b); since != -1 {
		t.Fatalf("SinceWhen(%v, %d, %d) = %d", x, a, b, since)
	}
}

// checkInvalidTimed checks all that is told of a timed forest that is not valid.
func checkInvalidTimed(t *testing.T, x impl.Timed) {
	t.Helper()
	before := cloneTimed(x)
	if impl.TimedValid(x) {
		t.Fatalf("TimedValid(%v) = true", x)
	}
	if text := impl.FormatTimed(x); text != "" {
		t.Fatalf("FormatTimed(%v) = %q", x, text)
	}
	for _, time := range []int{0, 1, 24, 25, -1} {
		checkNoMoment(t, x, time)
	}
	checkNotSince(t, x, 0, 0)
	checkNotSince(t, x, 0, len(x.Up)-1)
	checkNotSince(t, x, 1, 0)
	if !sameTimed(x, before) {
		t.Fatalf("%v has become %v", before, x)
	}
}

// checkAnyTimed checks a timed forest that may be valid or not.
func checkAnyTimed(t *testing.T, x impl.Timed) {
	t.Helper()
	if timedValidInModel(x) {
		checkTimed(t, x)
	} else {
		checkInvalidTimed(t, x)
	}
}

// checkTimedOf holds the timed forest of pairs against the model.
func checkTimedOf(t *testing.T, n int, pairs []impl.Pair) impl.Timed {
	t.Helper()
	before := slices.Clone(pairs)
	x, ok := impl.TimedOf(n, pairs)
	if want := timedInModel(n, pairs); !ok || !sameTimed(x, want) || !impl.TimedValid(x) {
		t.Fatalf("TimedOf(%d, %v) = %v, %v, not %v", n, pairs, x, ok, want)
	}
	if !slices.Equal(pairs, before) {
		t.Fatalf("%v have become %v", before, pairs)
	}
	return x
}

// checkNotTimed checks that there is no timed forest of so many items, or of these pairs.
func checkNotTimed(t *testing.T, n int, pairs []impl.Pair) {
	t.Helper()
	if x, ok := impl.TimedOf(n, pairs); ok || len(x.Up) != 0 || len(x.At) != 0 {
		t.Fatalf("TimedOf(%d, %v) = %v, %v", n, pairs, x, ok)
	}
}

// timedFromText returns the timed forest whose links and times these texts tell.
func timedFromText(t *testing.T, links, times string) impl.Timed {
	t.Helper()
	up, ok := impl.ParseForest(links)
	x := impl.Timed{Up: up}
	for word := range strings.FieldsSeq(times) {
		time, err := strconv.Atoi(word)
		ok = ok && err == nil
		x.At = append(x.At, time)
	}
	if !ok {
		t.Fatalf("no timed forest: %q, %q", links, times)
	}
	return x
}

// TestEverySmallTimedForest looks at all of up to 3 items, with links past
// either end, and times around those of few links and around the limits; also
// with too few or too many times.
func TestEverySmallTimedForest(t *testing.T) {
	valid := 0
	for n := range 4 {
		everyList(n, -1, n, func(up []int) {
			for length := range n + 2 {
				times := []int{0, 1}
				if length == n {
					times = []int{0, 1, 2, 3, 23, 24, -1, 25}
				}
				everyList(length, 0, len(times)-1, func(chosen []int) {
					x := impl.Timed{Up: slices.Clone(up)}
					for _, c := range chosen {
						x.At = append(x.At, times[c])
					}
					checkAnyTimed(t, x)
					if timedValidInModel(x) {
						valid++
					}
				})
			}
		})
	}
	// Of the 8 times there are 5 for a link, and 10 for two of which one is earlier.
	// One item has one forest. Two have one, and two of one link. Three have one, 6
	// of one link, 3 of two links under one root, and 6 of one link under another.
	if valid != 1+(1+2*5)+(1+6*5+3*25+6*10) {
		t.Errorf("%d timed forests are valid", valid)
	}
}

// TestTimesOfEveryForest looks at all forests of up to 5 items, with some times each.
func TestTimesOfEveryForest(t *testing.T) {
	seed := 0
	for n := 1; n <= 5; n++ {
		everyList(n, 0, n-1, func(up []int) {
			if validInModel(up) {
				x := mixedTimes(slices.Clone(up), seed)
				checkTimed(t, x)
				if n < 5 {
					checkSpoiltTimed(t, x)
				}
				seed++
			}
		})
	}
}

// checkSpoiltTimed changes a valid timed forest in one place each time. Some of
// what comes of it is valid all the same.
func checkSpoiltTimed(t *testing.T, x impl.Timed) {
	t.Helper()
	for item, above := range x.Up {
		for _, time := range []int{-1, 0, 1, 24, 25, x.At[item] - 1, x.At[item] + 1, x.At[above] - 1, x.At[above], x.At[above] + 1, math.MinInt, math.MaxInt} {
			spoilt := cloneTimed(x)
			spoilt.At[item] = time
			if timedValidInModel(spoilt) != impl.TimedValid(spoilt) {
				t.Fatalf("TimedValid(%v) = %v", spoilt, impl.TimedValid(spoilt))
			}
			if !timedValidInModel(spoilt) {
				checkInvalidTimed(t, spoilt)
			}
		}
		spoilt := cloneTimed(x)
		spoilt.Up[item] = len(x.Up)
		checkInvalidTimed(t, spoilt)
	}
	checkInvalidTimed(t, impl.Timed{Up: x.Up, At: x.At[1:]})
	checkInvalidTimed(t, impl.Timed{Up: x.Up, At: append(slices.Clone(x.At), 0)})
	checkInvalidTimed(t, impl.Timed{Up: x.Up})
	checkInvalidTimed(t, impl.Timed{At: x.At})
}

// TestLargeTimedForests looks at forests of 16 items, with several times each.
func TestLargeTimedForests(t *testing.T) {
	for _, up := range largeForests() {
		for seed := range 4 {
			x := mixedTimes(up, seed)
			checkTimed(t, x)
			checkSpoiltTimed(t, x)
		}
	}
	// As deep as can be: 15 links, each later than the one below it.
	early, late := impl.Timed{Up: chain(16), At: make([]int, 16)}, impl.Timed{Up: chain(16), At: make([]int, 16)}
	for item := range 15 {
		early.At[item], late.At[item] = item+1, item+10
	}
	checkTimed(t, early)
	checkTimed(t, late)
	late.At[14] = 25
	checkInvalidTimed(t, late)
	// The least timed forest, and one item more than there can be.
	checkTimed(t, impl.Timed{Up: []int{0}, At: []int{0}})
	checkInvalidTimed(t, impl.Timed{})
	checkInvalidTimed(t, impl.Timed{Up: []int{}, At: []int{}})
	checkInvalidTimed(t, impl.Timed{Up: alone(17), At: make([]int, 17)})
	// Rings, with times that would do on a part of them.
	checkInvalidTimed(t, impl.Timed{Up: []int{1, 0}, At: []int{1, 2}})
	checkInvalidTimed(t, impl.Timed{Up: []int{0, 2, 3, 1}, At: []int{0, 1, 2, 3}})
}

// TestTimesOfFewPairs looks at every list of few pairs of few items.
func TestTimesOfFewPairs(t *testing.T) {
	for i, most := range []int{5, 4, 3, 2, 2} {
		for count := range most + 1 {
			everyPairs(i+1, count, func(pairs []impl.Pair) {
				checkTimed(t, checkTimedOf(t, i+1, pairs))
			})
		}
	}
}

// TestTimesOfManyPairs looks at lists of up to 24 pairs of up to 16 items: at each time
// the forest is that of the pairs by then.
func TestTimesOfManyPairs(t *testing.T) {
	for seed := range 100 {
		n := 1 + seed%16
		pairs := mixedPairs(n, min(24, seed/3), seed)
		x := checkTimedOf(t, n, pairs)
		if seed%4 == 0 {
			checkTimed(t, x)
		}
		for time := range momentsInModel {
			ahead := pairs[:min(time, len(pairs))]
			want, _ := joinAllInModel(alone(n), impl.Size, ahead)
			if up, ok := impl.ForestAt(x, time); !ok || !slices.Equal(up, want) {
				t.Fatalf("ForestAt(%v, %d) = %v, %v, not %v", x, time, up, ok, want)
			}
			if count := impl.ClassesAt(x, time); count != impl.CountClasses(n, ahead) {
				t.Fatalf("ClassesAt(%v, %d) = %d", x, time, count)
			}
		}
	}
}

// TestTimesAheadOfTheFirstLink has the first case to watch: nobody is together with another one yet.
func TestTimesAheadOfTheFirstLink(t *testing.T) {
	for n := 2; n <= 16; n++ {
		for ahead := range 24 {
			pairs := append(slices.Repeat([]impl.Pair{{A: n - 1, B: n - 1}}, ahead), impl.Pair{A: 0, B: n - 1})
			x := checkTimedOf(t, n, pairs)
			for time := range ahead + 1 {
				up, ok := impl.ForestAt(x, time)
				if !ok || !slices.Equal(up, alone(n)) || impl.ClassesAt(x, time) != n {
					t.Fatalf("ForestAt(%v, %d) = %v, %v", x, time, up, ok)
				}
				if impl.TogetherAt(x, 0, n-1, time) || !impl.TogetherAt(x, n-1, n-1, time) || impl.RootAt(x, n-1, time) != n-1 {
					t.Fatalf("TogetherAt(%v, %d) is not as at the time 0", x, time)
				}
			}
			if since := impl.SinceWhen(x, 0, n-1); since != ahead+1 || x.At[n-1] != ahead+1 {
				t.Fatalf("SinceWhen(%v, 0, %d) = %d", x, n-1, since)
			}
			if impl.RootAt(x, n-1, ahead+1) != 0 || impl.ClassesAt(x, ahead+1) != n-1 {
				t.Fatalf("RootAt(%v, %d, %d) = %d", x, n-1, ahead+1, impl.RootAt(x, n-1, ahead+1))
			}
		}
	}
	// If there are no links at all, it is so for good.
	for n := 1; n <= 16; n++ {
		x := checkTimedOf(t, n, nil)
		if !slices.Equal(x.At, make([]int, n)) || !slices.Equal(x.Up, alone(n)) {
			t.Errorf("TimedOf(%d, none) = %v", n, x)
		}
		checkTimed(t, x)
	}
}

// TestLinksAsOldAsThoseAbove has the second case to watch: a link is older than the one above it, and not as old.
func TestLinksAsOldAsThoseAbove(t *testing.T) {
	for _, c := range []struct {
		links, times string
		valid        bool
	}{
		{". 0 1", "0 2 1", true}, {". 0 1", "0 1 1", false}, {". 0 1", "0 1 2", false}, {". 0 1", "0 24 23", true}, {". 0 1", "0 24 24", false}, {". 0 1", "0 25 24", false},
		{"1 2 .", "5 6 0", true}, {"1 2 .", "6 6 0", false}, {"1 2 .", "7 6 0", false},
		// The time of a root is 0, and no link under it has to be older.
		{". 0 0", "0 1 1", true}, {". 0 0", "0 24 24", true}, {". 0 0", "1 2 3", false}, {". 0 0", "24 1 1", false}, {". .", "0 1", false}, {". 0", "0 0", false},
		// Only those one above the other count: others may be as old, or older.
		{". 0 0 1 2", "0 3 3 2 2", true}, {". 0 0 1 2", "0 3 2 2 1", true}, {". 0 0 1 2", "0 3 2 1 2", false}, {". 0 . 2", "0 9 0 9", true}, {". 0 1 1", "0 5 4 4", true}, {". 0 1 1", "0 5 4 5", false},
		// Farther down, and past the middle.
		{". 0 1 2 3", "0 9 8 7 6", true}, {". 0 1 2 3", "0 9 8 7 7", false}, {". 0 1 2 3", "0 9 8 8 7", false}, {". 0 1 2 3", "0 9 8 8 9", false}, {". 0 1 2 3", "0 9 9 8 7", false}, {". 0 1 2 3", "0 4 3 2 1", true}, {". 0 1 2 3", "0 3 2 1 0", false},
	} {
		x := timedFromText(t, c.links, c.times)
		if valid := impl.TimedValid(x); valid != c.valid || timedValidInModel(x) != c.valid {
			t.Errorf("TimedValid(%v) = %v", x, valid)
		}
		checkAnyTimed(t, x)
	}
	// Links of the same time come at once.
	x := timedFromText(t, ". 0 0 2", "0 3 3 1")
	for time, want := range []string{". . . .", ". . . 2", ". . . 2", ". 0 0 2"} {
		up, _ := impl.ForestAt(x, time)
		if text := impl.FormatForest(up); text != want {
			t.Errorf("ForestAt(%v, %d) = %q", x, time, text)
		}
	}
	if impl.SinceWhen(x, 1, 3) != 3 || impl.SinceWhen(x, 2, 3) != 1 || impl.SinceWhen(x, 1, 2) != 3 {
		t.Errorf("SinceWhen(%v, 1, 3) = %d", x, impl.SinceWhen(x, 1, 3))
	}
}

// TestPairsThatJoinedNothing has the third case to watch: a pair of items that
// are together makes no link, but has its time all the same.
func TestPairsThatJoinedNothing(t *testing.T) {
	for _, c := range []struct {
		n           int
		pairs, want string
	}{
		{3, "0-1 1-0 2-1", ". 0@1 0@3"},
		{3, "0-1 0-1 0-1 0-2", ". 0@1 0@4"},
		{3, "0-0 1-1 2-2", ". . ."},
		{3, "1-1 2-1 1-2 2-2 0-1", "1@5 . 1@2"},
		{4, "0-1 2-3 1-3 0-3 1-2", ". 0@1 0@3 2@2"},
		{4, "3-2 3-2 1-0 2-3 0-1 0-2", ". 0@3 0@6 2@1"},
		{5, "4-3 3-4 2-1 4-4 1-4", ". . 1@3 1@5 3@1"},
		{2, "0-0 1-1 0-0 1-1 0-0 1-1 0-0 1-1 0-0 1-1 0-0 1-1 0-0 1-1 0-0 1-1 0-0 1-1 0-0 1-1 0-0 1-1 0-0 0-1", ". 0@24"},
	} {
		x := checkTimedOf(t, c.n, pairsFromText(t, c.pairs))
		if text := impl.FormatTimed(x); text != c.want {
			t.Errorf("TimedOf(%d, %q) = %q", c.n, c.pairs, text)
		}
		checkTimed(t, x)
	}
	// At the time of such a pair the forest is that of the time before it.
	for seed := range 40 {
		n := 2 + seed%8
		pairs := mixedPairs(n, 24, seed)
		x := checkTimedOf(t, n, pairs)
		useful, _ := impl.UsefulPairs(n, pairs)
		for i, p := range pairs {
			before, _ := impl.ForestAt(x, i)
			after, _ := impl.ForestAt(x, i+1)
			if slices.Equal(before, after) == slices.Contains(useful, i) {
				t.Fatalf("ForestAt(%v, %d) = %v, and then %v", x, i, before, after)
			}
			since := impl.SinceWhen(x, p.A, p.B)
			if since > i+1 || since < 0 || (since == i+1) != slices.Contains(useful, i) {
				t.Fatalf("SinceWhen(%v, %d, %d) = %d", x, p.A, p.B, since)
			}
		}
	}
}

// TestPairsOfNoTimedForest gives no such number of items, pairs of no such items, and too many.
func TestPairsOfNoTimedForest(t *testing.T) {
	for _, n := range []int{0, -1, 17, 18, math.MinInt, math.MaxInt} {
		checkNotTimed(t, n, nil)
		checkNotTimed(t, n, []impl.Pair{{}})
	}
	for n := 1; n <= 16; n++ {
		most := slices.Repeat([]impl.Pair{{A: 0, B: n - 1}}, 24)
		checkTimedOf(t, n, most)
		checkNotTimed(t, n, append(most, impl.Pair{}))
		checkNotTimed(t, n, make([]impl.Pair, 100000))
		for _, none := range noItemsOf(n) {
			for _, p := range []impl.Pair{{A: none}, {B: none}, {A: none, B: none}} {
				checkNotTimed(t, n, []impl.Pair{p})
				checkNotTimed(t, n, []impl.Pair{{A: 0, B: n - 1}, p})
			}
		}
	}
}

// TestWhoIsTogetherOnceStaysTogether holds the promise: before the time since
// when two items are together they are not, and from then on they are.
func TestWhoIsTogetherOnceStaysTogether(t *testing.T) {
	for seed := range 40 {
		n := 16 - seed%12
		made, _ := impl.TimedOf(n, mixedPairs(n, 24, seed))
		x := mixedTimes(made.Up, seed)
		if seed%2 == 0 {
			x = made
		}
		for _, p := range everyPair(n) {
			since := impl.SinceWhen(x, p.A, p.B)
			for time := range momentsInModel {
				if together := impl.TogetherAt(x, p.A, p.B, time); together != (since >= 0 && time >= since) {
					t.Fatalf("SinceWhen(%v, %d, %d) = %d, but %v at %d", x, p.A, p.B, since, together, time)
				}
			}
			if back := impl.SinceWhen(x, p.B, p.A); back != since || (p.A == p.B) != (since == 0) {
				t.Fatalf("SinceWhen(%v, %d, %d) = %d, but %d", x, p.A, p.B, since, back)
			}
		}
		for time := range momentsInModel - 1 {
			if impl.ClassesAt(x, time) < impl.ClassesAt(x, time+1) {
				t.Fatalf("ClassesAt(%v, %d) = %d", x, time, impl.ClassesAt(x, time))
			}
		}
		if !impl.SameClasses(forestAtInModel(x, 24), x.Up) || impl.ClassesAt(x, 0) != n {
			t.Fatalf("ForestAt(%v, 24) has not all links", x)
		}
	}
}

// TestTimesExample is the example of chapter 7.
func TestTimesExample(t *testing.T) {
	x, ok := impl.TimedOf(3, pairsFromText(t, "0-1 1-0 2-1"))
	if text := impl.FormatTimed(x); !ok || text != ". 0@1 0@3" {
		t.Fatalf("TimedOf = %q, %v", text, ok)
	}
	if !slices.Equal(x.Up, []int{0, 0, 0}) || !slices.Equal(x.At, []int{0, 1, 3}) {
		t.Errorf("TimedOf = %v", x)
	}
	if since := impl.SinceWhen(x, 1, 2); since != 3 {
		t.Errorf("SinceWhen(1, 2) = %d", since)
	}
}

// TestTimesAreNew overwrites results, and looks whether anything else changes.
func TestTimesAreNew(t *testing.T) {
	upMemory, atMemory := []int{0, 0, 0, 2, 4, 99, 99}, []int{0, 1, 3, 2, 0, 99, 99}
	pairMemory := []impl.Pair{{A: 0, B: 1}, {A: 2, B: 3}, {A: 1, B: 3}, {A: 99, B: 99}}
	x := impl.Timed{Up: upMemory[:5], At: atMemory[:5]}
	for range 2 {
		made, ok := impl.TimedOf(5, pairMemory[:3])
		if !ok || !sameTimed(made, x) {
			t.Fatalf("TimedOf = %v, %v", made, ok)
		}
		first, _ := impl.ForestAt(x, 0)
		last, _ := impl.ForestAt(x, 24)
		again, _ := impl.ForestAt(x, 24)
		overwrite(made.Up)
		if !slices.Equal(made.At, x.At) {
			t.Fatalf("the times have become %v", made.At)
		}
		for _, list := range [][]int{made.At, first, last} {
			overwrite(list)
			checkTimed(t, x)
		}
		if !slices.Equal(again, x.Up) {
			t.Fatalf("ForestAt has become %v", again)
		}
	}
	if !slices.Equal(upMemory, []int{0, 0, 0, 2, 4, 99, 99}) || !slices.Equal(atMemory, []int{0, 1, 3, 2, 0, 99, 99}) {
		t.Errorf("the timed forest has become %v, %v", upMemory, atMemory)
	}
	if !slices.Equal(pairMemory, []impl.Pair{{A: 0, B: 1}, {A: 2, B: 3}, {A: 1, B: 3}, {A: 99, B: 99}}) {
		t.Errorf("the pairs have become %v", pairMemory)
	}
}
