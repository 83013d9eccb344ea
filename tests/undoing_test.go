package tests

import (
	"math"
	"slices"
	"strconv"
	"testing"

	"loop.example/linkedroots/impl"
)

// The expectations for many logs come from this model. It keeps the forests
// behind each number of first steps, and so never has to undo anything.

// forestsInModel returns the forests behind none, one and more of the first
// steps, and false if these are not the steps of a valid log of n items.
func forestsInModel(n int, steps []impl.Step) ([][]int, bool) {
	up := alone(n)
	forests := [][]int{up}
	for _, s := range steps {
		if min(s.Root, s.To) < 0 || max(s.Root, s.To) >= n || s.Root == s.To || up[s.Root] != s.Root || up[s.To] != s.To {
			return nil, false
		}
		sizes := sizesInModel(up)
		if sizes[s.Root] > sizes[s.To] || sizes[s.Root] == sizes[s.To] && s.Root < s.To {
			return nil, false
		}
		up = slices.Clone(up)
		up[s.Root] = s.To
		forests = append(forests, up)
	}
	return forests, true
}

func logValidInModel(l impl.Log) bool {
	if len(l.Up) < 1 || len(l.Up) > 16 {
		return false
	}
	forests, ok := forestsInModel(len(l.Up), l.Steps)
	return ok && slices.Equal(forests[len(forests)-1], l.Up)
}

// logInModel returns the valid log of n items that these steps make.
func logInModel(n int, steps []impl.Step) impl.Log {
	forests, ok := forestsInModel(n, steps)
	if !ok {
		panic("no steps of a valid log")
	}
	return impl.Log{Up: slices.Clone(forests[len(forests)-1]), Steps: slices.Clone(steps)}
}

// joinLogInModel returns the log in which two items are joined, and false if they are together.
func joinLogInModel(l impl.Log, a, b int) (impl.Log, bool) {
	joined, apart := joinInModel(l.Up, impl.Size, a, b)
	if !apart {
		return impl.Log{}, false
	}
	after := impl.Log{Up: joined, Steps: slices.Clone(l.Steps)}
	for item, link := range joined {
		if link != l.Up[item] {
			after.Steps = append(after.Steps, impl.Step{Root: item, To: link})
		}
	}
	return after, true
}

func logOfInModel(n int, pairs []impl.Pair) impl.Log {
	l := impl.Log{Up: alone(n)}
	for _, p := range pairs {
		if joined, apart := joinLogInModel(l, p.A, p.B); apart {
			l = joined
		}
	}
	return l
}

func logTextInModel(l impl.Log) string {
	text := strconv.Itoa(len(l.Up)) + ":"
	for _, s := range l.Steps {
		text += " " + strconv.Itoa(s.Root) + ">" + strconv.Itoa(s.To)
	}
	return text
}

// everyLog calls f with every valid log of n items.
func everyLog(n int, f func(l impl.Log)) {
	var grow func(l impl.Log)
	grow = func(l impl.Log) {
		f(l)
		for a := range n {
			for b := range n {
				// Only roots are joined: their classes would make the same step.
				if l.Up[a] == a && l.Up[b] == b && a < b {
					joined, _ := joinLogInModel(l, a, b)
					grow(joined)
				}
			}
		}
	}
	grow(impl.Log{Up: alone(n)})
}

func cloneLog(l impl.Log) impl.Log {
	return impl.Log{Up: slices.Clone(l.Up), Steps: slices.Clone(l.Steps)}
}

func sameLog(a, b impl.Log) bool {
	return slices.Equal(a.Up, b.Up) && slices.Equal(a.Steps, b.Steps)
}

// noItemsOf are numbers that are no items of a forest of n items.
func noItemsOf(n int) []int {
	return []int{-1, n, n + 1, 16, math.MinInt, math.MaxInt}
}

// checkIsLog checks that a call has returned a log, and true.
func checkIsLog(t *testing.T, call string, got impl.Log, ok bool, want impl.Log) {
	t.Helper()
	if !ok || !sameLog(got, want) {
		t.Fatalf("%s = %v, %v, not %v", call, got, ok, want)
	}
}

// checkNoLog checks that a call has returned the zero value, and false.
func checkNoLog(t *testing.T, call string, got impl.Log, ok bool) {
	t.Helper()
	if ok || len(got.Up) != 0 || len(got.Steps) != 0 {
		t.Fatalf("%s = %v, %v", call, got, ok)
	}
}

// checkLog checks all that is told of a valid log.
func checkLog(t *testing.T, l impl.Log) {
	t.Helper()
	before := cloneLog(l)
	if !impl.LogValid(l) {
		t.Fatalf("LogValid(%v) = false", l)
	}
	if text := impl.FormatLog(l); text != logTextInModel(l) {
		t.Fatalf("FormatLog(%v) = %q", l, text)
	}
	checkGoingBack(t, l)
	checkNext(t, l)
	checkJoinedAt(t, l)
	if !sameLog(l, before) {
		t.Fatalf("%v has become %v", before, l)
	}
}

// checkGoingBack checks UndoLog and BackTo of a valid log.
func checkGoingBack(t *testing.T, l impl.Log) {
	t.Helper()
	last := len(l.Steps)
	for left := range last + 1 {
		back, ok := impl.BackTo(l, left)
		checkIsLog(t, "BackTo", back, ok, logInModel(len(l.Up), l.Steps[:left]))
	}
	for _, left := range []int{-1, -2, last + 1, last + 2, math.MinInt, math.MaxInt} {
		back, ok := impl.BackTo(l, left)
		checkNoLog(t, "BackTo", back, ok)
	}
	undone, ok := impl.UndoLog(l)
	if last == 0 {
		checkNoLog(t, "UndoLog", undone, ok)
	} else {
		checkIsLog(t, "UndoLog", undone, ok, logInModel(len(l.Up), l.Steps[:last-1]))
	}
}

// checkNext checks JoinLog of a valid log for all pairs of items, and that what is joined can be undone.
func checkNext(t *testing.T, l impl.Log) {
	t.Helper()
	for _, p := range everyPair(len(l.Up)) {
		joined, ok := impl.JoinLog(l, p.A, p.B)
		want, apart := joinLogInModel(l, p.A, p.B)
		if !apart {
			checkNoLog(t, "JoinLog of items that are together", joined, ok)
			continue
		}
		checkIsLog(t, "JoinLog", joined, ok, want)
		undone, ok := impl.UndoLog(joined)
		checkIsLog(t, "UndoLog behind JoinLog", undone, ok, l)
	}
	for _, none := range noItemsOf(len(l.Up)) {
		for _, p := range []impl.Pair{{A: 0, B: none}, {A: none, B: 0}, {A: none, B: none}} {
			joined, ok := impl.JoinLog(l, p.A, p.B)
			checkNoLog(t, "JoinLog of no such items", joined, ok)
		}
	}
}

// checkJoinedAt checks JoinedAt of a valid log for all pairs of items.
func checkJoinedAt(t *testing.T, l impl.Log) {
	t.Helper()
	forests, _ := forestsInModel(len(l.Up), l.Steps)
	for _, p := range everyPair(len(l.Up)) {
		want := slices.IndexFunc(forests, func(up []int) bool {
			first, _ := rootInModel(up, p.A)
			second, _ := rootInModel(up, p.B)
			return first == second
		})
		if at := impl.JoinedAt(l, p.A, p.B); at != want {
			t.Fatalf("JoinedAt(%v, %d, %d) = %d, not %d", l, p.A, p.B, at, want)
		}
	}
	for _, none := range noItemsOf(len(l.Up)) {
		for _, p := range []impl.Pair{{A: 0, B: none}, {A: none, B: 0}, {A: none, B: none}} {
			if at := impl.JoinedAt(l, p.A, p.B); at != -1 {
				t.Fatalf("JoinedAt(%v, %d, %d) = %d", l, p.A, p.B, at)
			}
		}
	}
}

// checkInvalidLog checks all that is told of a log that is not valid.
func checkInvalidLog(t *testing.T, l impl.Log) {
	t.Helper()
	before := cloneLog(l)
	if impl.LogValid(l) {
		t.Fatalf("LogValid(%v) = true", l)
	}
	if text := impl.FormatLog(l); text != "" {
		t.Fatalf("FormatLog(%v) = %q", l, text)
	}
	undone, ok := impl.UndoLog(l)
	checkNoLog(t, "UndoLog of no valid log", undone, ok)
	for _, left := range []int{-1, 0, 1, len(l.Steps) - 1, len(l.Steps)} {
		back, ok := impl.BackTo(l, left)
		checkNoLog(t, "BackTo of no valid log", back, ok)
	}
	for _, p := range []impl.Pair{{A: 0, B: 0}, {A: 0, B: 1}, {A: 1, B: 0}, {A: 0, B: len(l.Up) - 1}, {A: -1, B: len(l.Up)}} {
		joined, ok := impl.JoinLog(l, p.A, p.B)
		checkNoLog(t, "JoinLog of no valid log", joined, ok)
		if at := impl.JoinedAt(l, p.A, p.B); at != -1 {
			t.Fatalf("JoinedAt(%v, %d, %d) = %d", l, p.A, p.B, at)
		}
	}
	if !sameLog(l, before) {
		t.Fatalf("%v has become %v", before, l)
	}
}

// checkAnyLog checks a log that may be valid or not.
func checkAnyLog(t *testing.T, l impl.Log) {
	t.Helper()
	if logValidInModel(l) {
		checkLog(t, l)
	} else {
		checkInvalidLog(t, l)
	}
}

// stepsFrom returns the steps with these numbers, two for each.
func stepsFrom(numbers []int) []impl.Step {
	steps := make([]impl.Step, len(numbers)/2)
	for i := range steps {
		steps[i] = impl.Step{Root: numbers[2*i], To: numbers[2*i+1]}
	}
	return steps
}

// TestEverySmallLog looks at all logs of up to 3 items and as many steps, with
// numbers past either end included where there are not too many of them.
func TestEverySmallLog(t *testing.T) {
	valid := 0
	for n := range 4 {
		everyList(n, -1, n, func(up []int) {
			for count := range n + 1 {
				least, most := -1, n
				if n == 3 && count > 1 {
					least, most = 0, n-1
				}
				everyList(2*count, least, most, func(numbers []int) {
					l := impl.Log{Up: up, Steps: stepsFrom(numbers)}
					checkAnyLog(t, l)
					if logValidInModel(l) {
						valid++
					}
				})
			}
		})
	}
	// Without steps there is one log for each number of items. Of 2 items one step
	// can be made; of 3 items one of three, and behind each of them one more.
	if valid != 1+(1+1)+(1+3+3) {
		t.Errorf("%d logs are valid", valid)
	}
}

// TestEveryValidLog looks at all valid logs of up to 5 items, and at what comes of each when it is spoilt in one place.
func TestEveryValidLog(t *testing.T) {
	for n := 1; n <= 5; n++ {
		everyLog(n, func(l impl.Log) {
			checkLog(t, l)
			if n < 5 {
				checkSpoilt(t, l)
			}
		})
	}
}

// checkSpoilt changes a valid log in one place each time.
func checkSpoilt(t *testing.T, l impl.Log) {
	t.Helper()
	n := len(l.Up)
	for number := -1; number <= n; number++ {
		for item := range l.Up {
			spoilt := cloneLog(l)
			spoilt.Up[item] = number
			checkAnyLog(t, spoilt)
		}
		for at := range l.Steps {
			spoilt := cloneLog(l)
			spoilt.Steps[at].Root = number
			checkAnyLog(t, spoilt)
			spoilt = cloneLog(l)
			spoilt.Steps[at].To = number
			checkAnyLog(t, spoilt)
		}
	}
	for at, step := range l.Steps {
		spoilt := cloneLog(l)
		spoilt.Steps[at] = impl.Step{Root: step.To, To: step.Root}
		checkAnyLog(t, spoilt)
		checkAnyLog(t, impl.Log{Up: l.Up, Steps: slices.Delete(slices.Clone(l.Steps), at, at+1)})
		checkAnyLog(t, impl.Log{Up: l.Up, Steps: slices.Insert(slices.Clone(l.Steps), at, step)})
		checkAnyLog(t, impl.Log{Up: l.Up, Steps: append(slices.Clone(l.Steps), step)})
		for other := range at {
			spoilt = cloneLog(l)
			spoilt.Steps[at], spoilt.Steps[other] = spoilt.Steps[other], spoilt.Steps[at]
			checkAnyLog(t, spoilt)
		}
	}
	for root := range n {
		for to := range n {
			// One step more, whatever the rule says, with the link that it tells of.
			more := cloneLog(l)
			more.Up[root] = to
			more.Steps = append(more.Steps, impl.Step{Root: root, To: to})
			checkAnyLog(t, more)
		}
	}
	checkAnyLog(t, impl.Log{Up: alone(n), Steps: l.Steps})
	checkAnyLog(t, impl.Log{Up: append(slices.Clone(l.Up), n), Steps: l.Steps})
	checkAnyLog(t, impl.Log{Up: l.Up[:n-1], Steps: l.Steps})
	checkAnyLog(t, impl.Log{Steps: l.Steps})
}

// TestLargeLogs looks at logs of up to 16 items.
func TestLargeLogs(t *testing.T) {
	for seed := range 25 {
		n := 16 - seed%3
		pairs := mixedPairs(n, seed, seed)
		before := slices.Clone(pairs)
		want := logOfInModel(n, pairs)
		l, ok := impl.LogOf(n, pairs)
		checkIsLog(t, "LogOf", l, ok, want)
		checkLog(t, l)
		checkSpoilt(t, l)
		if !slices.Equal(pairs, before) {
			t.Fatalf("%v has become %v", before, pairs)
		}
	}
	// A log of all 15 steps, by which each time the greatest of those that stand alone goes under 0.
	all := impl.Log{Up: star(16, 0)}
	for item := 15; item > 0; item-- {
		all.Steps = append(all.Steps, impl.Step{Root: item, To: 0})
	}
	checkLog(t, all)
	checkSpoilt(t, all)
	// Any step is one too many, and so is any item.
	for _, p := range everyPair(16) {
		checkInvalidLog(t, impl.Log{Up: all.Up, Steps: append(slices.Clone(all.Steps), impl.Step{Root: p.A, To: p.B})})
	}
	checkInvalidLog(t, impl.Log{Up: star(17, 0), Steps: append(slices.Clone(all.Steps), impl.Step{Root: 16, To: 0})})
	checkInvalidLog(t, impl.Log{Up: alone(3), Steps: make([]impl.Step, 100000)})
	checkInvalidLog(t, impl.Log{Up: star(16, 0), Steps: slices.Repeat(all.Steps, 1000)})
}

// TestLogsWithoutSteps has the first case to watch.
func TestLogsWithoutSteps(t *testing.T) {
	for n := 1; n <= 16; n++ {
		l, ok := impl.NewLog(n)
		checkIsLog(t, "NewLog", l, ok, impl.Log{Up: alone(n)})
		checkLog(t, l)
		checkLog(t, impl.Log{Up: alone(n), Steps: []impl.Step{}})
		if text := impl.FormatLog(l); text != strconv.Itoa(n)+":" {
			t.Errorf("FormatLog(NewLog(%d)) = %q", n, text)
		}
		if n > 1 {
			checkInvalidLog(t, impl.Log{Up: chain(n)})
			checkInvalidLog(t, impl.Log{Up: star(n, 0)})
		}
	}
	for _, up := range largeForests()[1:] {
		checkInvalidLog(t, impl.Log{Up: up})
	}
	for _, n := range []int{0, -1, 17, 18, math.MinInt, math.MaxInt} {
		l, ok := impl.NewLog(n)
		checkNoLog(t, "NewLog", l, ok)
		if n == 0 || n == 17 || n == 18 {
			checkInvalidLog(t, impl.Log{Up: alone(n)})
		}
	}
}

// TestStepsTheOtherWay has the second case to watch: steps that the rule would have made the other way.
func TestStepsTheOtherWay(t *testing.T) {
	for _, c := range []struct {
		up    string
		steps []impl.Step
		valid bool
	}{
		// As many: the greater number goes under.
		{". 0", []impl.Step{{Root: 1, To: 0}}, true},
		{"1 .", []impl.Step{{Root: 0, To: 1}}, false},
		// Fewer go under, also if their root has the less number.
		{"1 . 1", []impl.Step{{Root: 2, To: 1}, {Root: 0, To: 1}}, true},
		{". 0 1", []impl.Step{{Root: 2, To: 1}, {Root: 1, To: 0}}, false},
		// Two and two: the less number of the roots stays, whatever lies below it.
		{". 0 0 2", []impl.Step{{Root: 1, To: 0}, {Root: 3, To: 2}, {Root: 2, To: 0}}, true},
		{"2 0 . 2", []impl.Step{{Root: 1, To: 0}, {Root: 3, To: 2}, {Root: 0, To: 2}}, false},
		// 0 is higher, but 4 has more items: the rule is Size, not Height.
		{"4 0 0 2 . 4 4 4 4", []impl.Step{{Root: 1, To: 0}, {Root: 3, To: 2}, {Root: 2, To: 0}, {Root: 5, To: 4}, {Root: 6, To: 4}, {Root: 7, To: 4}, {Root: 8, To: 4}, {Root: 0, To: 4}}, true},
		{". 0 0 2 0 4 4 4 4", []impl.Step{{Root: 1, To: 0}, {Root: 3, To: 2}, {Root: 2, To: 0}, {Root: 5, To: 4}, {Root: 6, To: 4}, {Root: 7, To: 4}, {Root: 8, To: 4}, {Root: 4, To: 0}}, false},
		// The same links, but in an order in which the rule does not make them.
		{". 0 0 2", []impl.Step{{Root: 2, To: 0}, {Root: 1, To: 0}, {Root: 3, To: 2}}, false},
		{". 0 0 2", []impl.Step{{Root: 3, To: 2}, {Root: 1, To: 0}, {Root: 2, To: 0}}, true},
		{". 0 0 2", []impl.Step{{Root: 3, To: 2}, {Root: 2, To: 0}, {Root: 1, To: 0}}, false},
		// A step that links items that are not both roots, to the same roots as one that does.
		{". 0 0", []impl.Step{{Root: 1, To: 0}, {Root: 2, To: 1}}, false},
		{". 0 1", []impl.Step{{Root: 1, To: 0}, {Root: 2, To: 1}}, false},
		// An item that is no root gets the link, or the link leads to one; the roots of both would fit the rule.
		{". 0 . 0", []impl.Step{{Root: 1, To: 0}, {Root: 3, To: 2}, {Root: 3, To: 0}}, false},
		{". 0 1 2", []impl.Step{{Root: 1, To: 0}, {Root: 3, To: 2}, {Root: 2, To: 1}}, false},
		// A root under itself, and under an item of its own class.
		{". .", []impl.Step{{Root: 0, To: 0}}, false},
		{". 0", []impl.Step{{Root: 1, To: 0}, {Root: 0, To: 1}}, false},
		{". 0", []impl.Step{{Root: 1, To: 0}, {Root: 1, To: 0}}, false},
	} {
		up, ok := impl.ParseForest(c.up)
		if !ok {
			t.Fatalf("ParseForest(%q) = %v", c.up, up)
		}
		l := impl.Log{Up: up, Steps: c.steps}
		if valid := impl.LogValid(l); valid != c.valid {
			t.Errorf("LogValid(%q, %v) = %v", c.up, c.steps, valid)
		}
		checkAnyLog(t, l)
	}
}

// TestItemsThatAreOne has the third case to watch.
func TestItemsThatAreOne(t *testing.T) {
	l, ok := impl.LogOf(4, []impl.Pair{{A: 2, B: 2}, {A: 1, B: 2}, {A: 1, B: 1}, {A: 3, B: 2}, {A: 2, B: 2}})
	checkIsLog(t, "LogOf", l, ok, impl.Log{Up: []int{0, 1, 1, 1}, Steps: []impl.Step{{Root: 2, To: 1}, {Root: 3, To: 1}}})
	for item := range 4 {
		if at := impl.JoinedAt(l, item, item); at != 0 {
			t.Errorf("JoinedAt(%d, %d) = %d", item, item, at)
		}
		joined, ok := impl.JoinLog(l, item, item)
		checkNoLog(t, "JoinLog of an item with itself", joined, ok)
	}
	one, ok := impl.LogOf(1, make([]impl.Pair, 24))
	checkIsLog(t, "LogOf one item", one, ok, impl.Log{Up: []int{0}})
	checkLog(t, one)
}

// TestLogsOfPairs joins every list of up to three pairs of up to three items, and of up to 24 of 16.
func TestLogsOfPairs(t *testing.T) {
	for n := 1; n <= 3; n++ {
		for count := range 4 {
			everyPairs(n, count, func(pairs []impl.Pair) {
				l, ok := impl.LogOf(n, pairs)
				checkIsLog(t, "LogOf", l, ok, logOfInModel(n, pairs))
			})
		}
	}
	for seed := range 500 {
		pairs := mixedPairs(16, seed%25, seed)
		l, ok := impl.LogOf(16, pairs)
		checkIsLog(t, "LogOf", l, ok, logOfInModel(16, pairs))
		up, _ := impl.JoinAll(alone(16), impl.Size, pairs)
		useful, _ := impl.UsefulPairs(16, pairs)
		if !slices.Equal(l.Up, up) || len(l.Steps) != len(useful) {
			t.Fatalf("LogOf(16, %v) = %v, but JoinAll = %v", pairs, l, up)
		}
	}
}

// TestPairsOfNoLog gives LogOf pairs that are not valid.
func TestPairsOfNoLog(t *testing.T) {
	refused := func(n int, pairs []impl.Pair) {
		t.Helper()
		l, ok := impl.LogOf(n, pairs)
		checkNoLog(t, "LogOf", l, ok)
	}
	for _, n := range []int{0, -1, 17, math.MinInt, math.MaxInt} {
		refused(n, nil)
		refused(n, []impl.Pair{{A: 0, B: 0}})
	}
	for n := 1; n <= 16; n++ {
		l, ok := impl.LogOf(n, make([]impl.Pair, 24))
		checkIsLog(t, "LogOf", l, ok, impl.Log{Up: alone(n)})
		refused(n, make([]impl.Pair, 25))
		refused(n, make([]impl.Pair, 100000))
		for _, none := range noItemsOf(n) {
			refused(n, []impl.Pair{{A: 0, B: none}})
			refused(n, []impl.Pair{{A: none, B: 0}})
			refused(n, []impl.Pair{{A: none, B: none}})
			refused(n, []impl.Pair{{A: 0, B: n - 1}, {A: n - 1, B: none}})
		}
	}
}

// TestWhatIsUndoneHasNotBeen joins, undoes and joins others, and holds the log against that of the others alone.
func TestWhatIsUndoneHasNotBeen(t *testing.T) {
	for seed := range 200 {
		kept := mixedPairs(16, seed%13, seed)
		others := mixedPairs(16, 8, seed+1000)
		l, _ := impl.LogOf(16, kept)
		left := len(l.Steps)
		away, _ := impl.LogOf(16, slices.Concat(kept, mixedPairs(16, 11, seed+2000)))
		back, ok := impl.BackTo(away, left)
		checkIsLog(t, "BackTo", back, ok, l)
		for len(away.Steps) > left {
			away, ok = impl.UndoLog(away)
			if !ok {
				t.Fatalf("UndoLog(%v) = false", away)
			}
		}
		checkIsLog(t, "UndoLog, again and again", away, true, l)
		for _, p := range others {
			if joined, ok := impl.JoinLog(back, p.A, p.B); ok {
				back = joined
			}
		}
		want, _ := impl.LogOf(16, slices.Concat(kept, others))
		checkIsLog(t, "JoinLog behind BackTo", back, true, want)
	}
}

// TestUndoingExample is the example of chapter 4.
func TestUndoingExample(t *testing.T) {
	l, ok := impl.LogOf(3, []impl.Pair{{A: 0, B: 1}, {A: 2, B: 1}})
	if text := impl.FormatLog(l); !ok || text != "3: 1>0 2>0" {
		t.Fatalf("LogOf = %q, %v", text, ok)
	}
	undone, ok := impl.UndoLog(l)
	if text := impl.FormatLog(undone); !ok || text != "3: 1>0" || !slices.Equal(undone.Up, []int{0, 0, 2}) {
		t.Errorf("UndoLog = %q, %v", text, ok)
	}
	if at := impl.JoinedAt(l, 2, 1); at != 2 {
		t.Errorf("JoinedAt(2, 1) = %d", at)
	}
}

// overwriteLog sets all numbers of a log, those in unused capacity included.
func overwriteLog(l impl.Log) {
	overwrite(l.Up)
	steps := l.Steps[:cap(l.Steps)]
	for i := range steps {
		steps[i] = impl.Step{Root: -7, To: -7}
	}
}

// TestLogsAreNew overwrites results, and looks whether anything else changes.
func TestLogsAreNew(t *testing.T) {
	upMemory := []int{0, 0, 0, 2, 4, 99, 99}
	stepMemory := []impl.Step{{Root: 1, To: 0}, {Root: 3, To: 2}, {Root: 2, To: 0}, {Root: 99, To: 99}, {Root: 99, To: 99}}
	pairMemory := []impl.Pair{{A: 0, B: 1}, {A: 2, B: 3}, {A: 1, B: 3}, {A: 99, B: 99}}
	l := impl.Log{Up: upMemory[:5], Steps: stepMemory[:3]}
	for range 2 {
		fresh, _ := impl.NewLog(5)
		made, _ := impl.LogOf(5, pairMemory[:3])
		joined, _ := impl.JoinLog(l, 4, 3)
		undone, _ := impl.UndoLog(l)
		all, _ := impl.BackTo(l, 3)
		none, _ := impl.BackTo(l, 0)
		checkIsLog(t, "LogOf", made, true, l)
		for _, result := range []impl.Log{fresh, made, joined, undone, all, none} {
			overwriteLog(result)
			checkLog(t, l)
		}
	}
	if !slices.Equal(upMemory, []int{0, 0, 0, 2, 4, 99, 99}) {
		t.Errorf("the forest has become %v", upMemory)
	}
	if !slices.Equal(stepMemory, []impl.Step{{Root: 1, To: 0}, {Root: 3, To: 2}, {Root: 2, To: 0}, {Root: 99, To: 99}, {Root: 99, To: 99}}) {
		t.Errorf("the steps have become %v", stepMemory)
	}
	if !slices.Equal(pairMemory, []impl.Pair{{A: 0, B: 1}, {A: 2, B: 3}, {A: 1, B: 3}, {A: 99, B: 99}}) {
		t.Errorf("the pairs have become %v", pairMemory)
	}
}
