package tests

import (
	"math"
	"regexp"
	"slices"
	"strconv"
	"strings"
	"testing"

	"loop.example/linkedroots/impl"
)

// The expectations for many offsets come from this model. It gives numbers to
// items along links in either direction, and knows no values of roots.

func offsetsValidInModel(o impl.Offsets) bool {
	if !validInModel(o.Up) || len(o.By) != len(o.Up) {
		return false
	}
	for item, by := range o.By {
		if by < -16000 || by > 16000 || o.Up[item] == item && by != 0 {
			return false
		}
	}
	return true
}

// diffInModel returns how much b is more than a, and false if they are not together.
func diffInModel(o impl.Offsets, a, b int) (int, bool) {
	reached, numbers := make([]bool, len(o.Up)), make([]int, len(o.Up))
	reached[a] = true
	for range o.Up {
		for item, above := range o.Up {
			if reached[item] {
				reached[above], numbers[above] = true, numbers[item]-o.By[item]
			} else if reached[above] {
				reached[item], numbers[item] = true, numbers[above]+o.By[item]
			}
		}
	}
	return numbers[b], reached[b]
}

func valuesInModel(o impl.Offsets) []int {
	values := make([]int, len(o.Up))
	for item := range o.Up {
		values[item], _ = diffInModel(o, classInModel(o.Up, item)[0], item)
	}
	return values
}

// flatOffsetsInModel returns the flat offsets, and false if they are not valid.
func flatOffsetsInModel(o impl.Offsets) (impl.Offsets, bool) {
	flat := cloneOffsets(o)
	for item := range o.Up {
		root, _ := rootInModel(o.Up, item)
		flat.Up[item] = root
		flat.By[item], _ = diffInModel(o, root, item)
	}
	return flat, offsetsValidInModel(flat)
}

// tellInModel returns the offsets when a valid fact has been told, and the
// word; no offsets and no word if they would not be valid.
func tellInModel(o impl.Offsets, f impl.Fact) (impl.Offsets, string) {
	joined, apart := joinInModel(o.Up, impl.Size, f.A, f.B)
	if !apart {
		if by, _ := diffInModel(o, f.A, f.B); by != f.By {
			return cloneOffsets(o), "wrong"
		}
		return cloneOffsets(o), "known"
	}
	told := impl.Offsets{Up: joined, By: slices.Clone(o.By)}
	lower := 0
	for joined[lower] == o.Up[lower] {
		lower++
	}
	// The new link counts for the difference or against it: only one of both fits.
	without, _ := diffInModel(told, f.A, f.B)
	for _, by := range []int{f.By - without, without - f.By} {
		told.By[lower] = by
		if got, _ := diffInModel(told, f.A, f.B); got == f.By {
			break
		}
	}
	if !offsetsValidInModel(told) {
		return impl.Offsets{}, ""
	}
	return told, "new"
}

// tellAllInModel tells all facts of n items that stand alone.
func tellAllInModel(n int, facts []impl.Fact) (impl.Offsets, []string) {
	o := aloneOffsets(n)
	var words []string
	for _, f := range facts {
		told, word := tellInModel(o, f)
		o = told
		words = append(words, word)
	}
	return o, words
}

func offsetsTextInModel(o impl.Offsets) string {
	words := strings.Split(textInModel(o.Up), " ")
	for item, by := range o.By {
		if o.Up[item] != item {
			words[item] += "+" + strconv.Itoa(by)
		}
	}
	return strings.Join(words, " ")
}

func factsTextInModel(facts []impl.Fact) string {
	text := ""
	for _, f := range facts {
		text += " " + strconv.Itoa(f.A) + "+" + strconv.Itoa(f.By) + "=" + strconv.Itoa(f.B)
	}
	if text == "" {
		return "-"
	}
	return text[1:]
}

func aloneOffsets(n int) impl.Offsets {
	return impl.Offsets{Up: alone(n), By: make([]int, n)}
}

func cloneOffsets(o impl.Offsets) impl.Offsets {
	return impl.Offsets{Up: slices.Clone(o.Up), By: slices.Clone(o.By)}
}

func sameOffsets(a, b impl.Offsets) bool {
	return slices.Equal(a.Up, b.Up) && slices.Equal(a.By, b.By)
}

// mixedFacts returns so many facts of n items by a short rule, with differences of at most most.
func mixedFacts(n, count, most, seed int) []impl.Fact {
	facts := make([]impl.Fact, count)
	differences := mixedPairs(2*most+1, count, seed+5000)
	for i, p := range mixedPairs(n, count, seed) {
		facts[i] = impl.Fact{A: p.A, B: p.B, By: differences[i].A - most}
	}
	return facts
}

// mixedOffsets returns valid offsets with a forest, and differences of at most most.
func mixedOffsets(up []int, most, seed int) impl.Offsets {
	o := impl.Offsets{Up: up, By: make([]int, len(up))}
	for item, p := range mixedPairs(2*most+1, len(up), seed) {
		if up[item] != item {
			o.By[item] = p.B - most
		}
	}
	return o
}

// everyFacts calls f with every list of so many facts of n items with differences of at most most.
func everyFacts(n, count, most int, f func(facts []impl.Fact)) {
	everyPairs(n, count, func(pairs []impl.Pair) {
		everyList(count, -most, most, func(differences []int) {
			facts := make([]impl.Fact, count)
			for i, p := range pairs {
				facts[i] = impl.Fact{A: p.A, B: p.B, By: differences[i]}
			}
			f(facts)
		})
	})
}

// noFactsOf are facts that are not valid for n items.
func noFactsOf(n int) []impl.Fact {
	facts := []impl.Fact{{By: 1001}, {By: -1001}, {By: 16000}, {By: math.MaxInt}, {By: math.MinInt}, {A: n - 1, B: 0, By: 1001}}
	for _, none := range noItemsOf(n) {
		facts = append(facts, impl.Fact{A: none}, impl.Fact{B: none}, impl.Fact{A: none, B: none}, impl.Fact{A: 0, B: none, By: 1})
	}
	return facts
}

// checkAreOffsets checks that a call has returned offsets, and true.
func checkAreOffsets(t *testing.T, call string, got impl.Offsets, ok bool, want impl.Offsets) {
	t.Helper()
	if !ok || !sameOffsets(got, want) {
		t.Fatalf("%s = %v, %v, not %v", call, got, ok, want)
	}
}

// checkZeroOffsets checks that a call has returned the zero value, and false.
func checkZeroOffsets(t *testing.T, call string, got impl.Offsets, ok bool) {
	t.Helper()
	if ok || len(got.Up) != 0 || len(got.By) != 0 {
		t.Fatalf("%s = %v, %v", call, got, ok)
	}
}

// checkTell tells one valid fact of valid offsets.
func checkTell(t *testing.T, o impl.Offsets, f impl.Fact) {
	t.Helper()
	want, word := tellInModel(o, f)
	told, got := impl.TellFact(o, f)
	if got != word || !sameOffsets(told, want) {
		t.Fatalf("TellFact(%v, %v) = %v, %q, not %v, %q", o, f, told, got, want, word)
	}
	if word != "new" {
		return
	}
	if by, ok := impl.DiffOf(told, f.A, f.B); by != f.By || !ok || !impl.OffsetsValid(told) {
		t.Fatalf("DiffOf(%v, %d, %d) = %d, %v", told, f.A, f.B, by, ok)
	}
	if again, word := impl.TellFact(told, f); word != "known" || !sameOffsets(again, told) {
		t.Fatalf("TellFact(%v, %v), told again = %v, %q", told, f, again, word)
	}
}

// checkOffsets checks all that is told of valid offsets, and each fact of these differences.
func checkOffsets(t *testing.T, o impl.Offsets, differences ...int) {
	t.Helper()
	before := cloneOffsets(o)
	if !impl.OffsetsValid(o) {
		t.Fatalf("OffsetsValid(%v) = false", o)
	}
	if text := impl.FormatOffsets(o); text != offsetsTextInModel(o) {
		t.Fatalf("FormatOffsets(%v) = %q", o, text)
	}
	if values, ok := impl.ValuesOf(o); !ok || !slices.Equal(values, valuesInModel(o)) {
		t.Fatalf("ValuesOf(%v) = %v, %v, not %v", o, values, ok, valuesInModel(o))
	}
	flat, ok := impl.FlatOffsets(o)
	if want, valid := flatOffsetsInModel(o); valid {
		checkAreOffsets(t, "FlatOffsets", flat, ok, want)
	} else {
		checkZeroOffsets(t, "FlatOffsets", flat, ok)
	}
	for _, p := range everyPair(len(o.Up)) {
		want, together := diffInModel(o, p.A, p.B)
		if by, ok := impl.DiffOf(o, p.A, p.B); by != want || ok != together {
			t.Fatalf("DiffOf(%v, %d, %d) = %d, %v", o, p.A, p.B, by, ok)
		}
		for _, by := range differences {
			checkTell(t, o, impl.Fact{A: p.A, B: p.B, By: by})
		}
	}
	for _, none := range noItemsOf(len(o.Up)) {
		for _, p := range []impl.Pair{{A: 0, B: none}, {A: none, B: 0}, {A: none, B: none}} {
			if by, ok := impl.DiffOf(o, p.A, p.B); by != 0 || ok {
				t.Fatalf("DiffOf(%v, %d, %d) = %d, %v", o, p.A, p.B, by, ok)
			}
		}
	}
	for _, f := range noFactsOf(len(o.Up)) {
		told, word := impl.TellFact(o, f)
		checkZeroOffsets(t, "TellFact of no valid fact", told, word != "")
	}
	if !sameOffsets(o, before) {
		t.Fatalf("%v has become %v", before, o)
	}
}

// checkInvalidOffsets checks all that is told of offsets that are not valid.
func checkInvalidOffsets(t *testing.T, o impl.Offsets) {
	t.Helper()
	before := cloneOffsets(o)
	if impl.OffsetsValid(o) {
		t.Fatalf("OffsetsValid(%v) = true", o)
	}
	if text := impl.FormatOffsets(o); text != "" {
		t.Fatalf("FormatOffsets(%v) = %q", o, text)
	}
	if values, ok := impl.ValuesOf(o); len(values) != 0 || ok {
		t.Fatalf("ValuesOf(%v) = %v, %v", o, values, ok)
	}
	flat, ok := impl.FlatOffsets(o)
	checkZeroOffsets(t, "FlatOffsets of no valid offsets", flat, ok)
	for _, p := range []impl.Pair{{A: 0, B: 0}, {A: 0, B: 1}, {A: 1, B: 0}, {A: 0, B: len(o.Up) - 1}, {A: -1, B: len(o.Up)}} {
		if by, ok := impl.DiffOf(o, p.A, p.B); by != 0 || ok {
			t.Fatalf("DiffOf(%v, %d, %d) = %d, %v", o, p.A, p.B, by, ok)
		}
		for _, by := range []int{0, 1, -1000, 1001} {
			told, word := impl.TellFact(o, impl.Fact{A: p.A, B: p.B, By: by})
			checkZeroOffsets(t, "TellFact of no valid offsets", told, word != "")
		}
	}
	if !sameOffsets(o, before) {
		t.Fatalf("%v has become %v", before, o)
	}
}

// checkAnyOffsets checks offsets that may be valid or not.
func checkAnyOffsets(t *testing.T, o impl.Offsets, differences ...int) {
	t.Helper()
	if offsetsValidInModel(o) {
		checkOffsets(t, o, differences...)
	} else {
		checkInvalidOffsets(t, o)
	}
}

// checkTellAll tells a list of valid facts of n items.
func checkTellAll(t *testing.T, n int, facts []impl.Fact) {
	t.Helper()
	before := slices.Clone(facts)
	want, words := tellAllInModel(n, facts)
	told, got, ok := impl.TellAll(n, facts)
	if !ok || !sameOffsets(told, want) || !slices.Equal(got, words) {
		t.Fatalf("TellAll(%d, %v) = %v, %q, %v, not %v, %q", n, facts, told, got, ok, want, words)
	}
	if at, ok := impl.FirstWrong(n, facts); at != slices.Index(words, "wrong") || !ok {
		t.Fatalf("FirstWrong(%d, %v) = %d, %v", n, facts, at, ok)
	}
	if !slices.Equal(facts, before) {
		t.Fatalf("%v has become %v", before, facts)
	}
}

// checkNotTold checks that facts are refused.
func checkNotTold(t *testing.T, n int, facts []impl.Fact) {
	t.Helper()
	told, words, ok := impl.TellAll(n, facts)
	checkZeroOffsets(t, "TellAll", told, ok)
	if len(words) != 0 {
		t.Fatalf("TellAll(%d, %v) = %q", n, facts, words)
	}
	if at, ok := impl.FirstWrong(n, facts); at != -1 || ok {
		t.Fatalf("FirstWrong(%d, %v) = %d, %v", n, facts, at, ok)
	}
}

// TestEverySmallOffsets looks at all offsets of up to 3 items with small
// differences, with links past either end and lists that are not as long included.
func TestEverySmallOffsets(t *testing.T) {
	valid := 0
	for n := range 4 {
		everyList(n, -1, n, func(up []int) {
			for count := range n + 2 {
				if count != n && n == 3 && !validInModel(up) {
					continue
				}
				everyList(count, -1, 1, func(by []int) {
					o := impl.Offsets{Up: up, By: by}
					checkAnyOffsets(t, o, -1000, -2, -1, 0, 1, 2, 1000)
					if offsetsValidInModel(o) {
						valid++
					}
				})
			}
		})
	}
	// Of 2 items, one forest has no link, and two have one; of 3 items, one has
	// none, six have one, and nine have two. Three differences fit each link.
	if valid != 1+(1+2*3)+(1+6*3+9*9) {
		t.Errorf("%d offsets are valid", valid)
	}
}

// TestOffsetsOfEveryForest looks at all forests of 4 items and some of 5, with different differences at each link.
func TestOffsetsOfEveryForest(t *testing.T) {
	for n := 4; n <= 5; n++ {
		seed := 0
		everyList(n, 0, n-1, func(up []int) {
			seed++
			if validInModel(up) && (n == 4 || seed%7 == 0) {
				checkOffsets(t, mixedOffsets(up, 300, seed), -1000, -7, 0, 7, 1000)
				checkOffsets(t, mixedOffsets(up, 16000, seed), -1000, 0, 1000)
			}
		})
	}
}

func TestLargeOffsets(t *testing.T) {
	for at, up := range largeForests() {
		for _, most := range []int{1, 1000, 8000, 16000} {
			checkOffsets(t, mixedOffsets(up, most, at+most), -1000, -1, 0, 1000)
		}
	}
	for n := 1; n <= 16; n++ {
		o, ok := impl.NewOffsets(n)
		checkAreOffsets(t, "NewOffsets", o, ok, aloneOffsets(n))
		checkOffsets(t, o, -1000, 0, 5, 1000)
		checkOffsets(t, mixedOffsets(chain(n), 900, n), -3, 0, 1000)
		checkInvalidOffsets(t, impl.Offsets{Up: alone(n)})
		checkInvalidOffsets(t, impl.Offsets{By: make([]int, n)})
		checkInvalidOffsets(t, impl.Offsets{Up: alone(n), By: make([]int, n-1)})
		checkInvalidOffsets(t, impl.Offsets{Up: alone(n), By: make([]int, n+1)})
	}
	for _, n := range []int{0, -1, 17, 18, math.MinInt, math.MaxInt} {
		o, ok := impl.NewOffsets(n)
		checkZeroOffsets(t, "NewOffsets", o, ok)
	}
	checkInvalidOffsets(t, impl.Offsets{})
	checkInvalidOffsets(t, aloneOffsets(0))
	checkInvalidOffsets(t, aloneOffsets(17))
	checkInvalidOffsets(t, impl.Offsets{Up: []int{1, 0}, By: []int{0, 0}})
	checkInvalidOffsets(t, impl.Offsets{Up: []int{1, 0}, By: []int{1, -1}})
	checkInvalidOffsets(t, impl.Offsets{Up: alone(16), By: make([]int, 100000)})
}

// TestLimitsOfOffsets puts differences about the limits at roots and at links.
func TestLimitsOfOffsets(t *testing.T) {
	for _, up := range append(largeForests(), []int{0, 0}, []int{1, 1}, []int{1, 2, 2}) {
		for item, link := range up {
			for _, by := range []int{-16000, -1, 0, 1, 16000, -16001, 16001, 32000, math.MinInt, math.MaxInt} {
				o := impl.Offsets{Up: up, By: make([]int, len(up))}
				o.By[item] = by
				valid := by == 0 || link != item && by >= -16000 && by <= 16000
				if impl.OffsetsValid(o) != valid {
					t.Fatalf("OffsetsValid(%v) = %v", o, !valid)
				}
				checkAnyOffsets(t, o, 1000)
			}
		}
	}
}

// TestFarFromTheRoot flattens offsets whose items are about as far from the root as can be told.
func TestFarFromTheRoot(t *testing.T) {
	for _, c := range []struct {
		up   []int
		by   []int
		want string
	}{
		{[]int{1, 2, 2}, []int{1000, 15000, 0}, "2+16000 2+15000 ."},
		{[]int{1, 2, 2}, []int{1001, 15000, 0}, ""},
		{[]int{1, 2, 2}, []int{-1000, -15000, 0}, "2+-16000 2+-15000 ."},
		{[]int{1, 2, 2}, []int{-1001, -15000, 0}, ""},
		{[]int{1, 2, 2}, []int{-16000, 16000, 0}, "2+0 2+16000 ."},
		{[]int{0, 0, 1, 2}, []int{0, 16000, 16000, -16000}, ""},
		{[]int{0, 0, 1, 2}, []int{0, 16000, -16000, -16000}, ". 0+16000 0+0 0+-16000"},
		{[]int{0, 0, 0}, []int{0, 16000, -16000}, ". 0+16000 0+-16000"},
	} {
		o := impl.Offsets{Up: c.up, By: c.by}
		checkOffsets(t, o, -1000, 0, 1000)
		flat, ok := impl.FlatOffsets(o)
		if text := impl.FormatOffsets(flat); text != c.want || ok != (c.want != "") {
			t.Errorf("FlatOffsets(%v) = %q, %v", o, text, ok)
		}
	}
	// What is farther apart than a link can tell is still told.
	far := impl.Offsets{Up: chain(16), By: slices.Repeat([]int{16000}, 16)}
	far.By[15] = 0
	checkOffsets(t, far, -1000, 0, 1000)
	if by, ok := impl.DiffOf(far, 15, 0); by != 240000 || !ok {
		t.Errorf("DiffOf = %d, %v", by, ok)
	}
	if values, _ := impl.ValuesOf(far); values[15] != -240000 || values[1] != -16000 {
		t.Errorf("ValuesOf = %v", values)
	}
	if told, word := impl.TellFact(far, impl.Fact{A: 15, B: 0, By: 1000}); word != "wrong" || !sameOffsets(told, far) {
		t.Errorf("TellFact = %v, %q", told, word)
	}
}

// TestDifferencesTooGreat has the third case to watch: new links about the limits, either way around.
func TestDifferencesTooGreat(t *testing.T) {
	for _, c := range []struct {
		o    impl.Offsets
		f    impl.Fact
		want string
	}{
		// 2 goes under 0, and takes what 1 has.
		{impl.Offsets{Up: []int{0, 0, 2}, By: []int{0, 16000, 0}}, impl.Fact{A: 1, B: 2, By: 0}, ". 0+16000 0+16000"},
		{impl.Offsets{Up: []int{0, 0, 2}, By: []int{0, 16000, 0}}, impl.Fact{A: 1, B: 2, By: 1}, ""},
		{impl.Offsets{Up: []int{0, 0, 2}, By: []int{0, 16000, 0}}, impl.Fact{A: 1, B: 2, By: -1}, ". 0+16000 0+15999"},
		{impl.Offsets{Up: []int{0, 0, 2}, By: []int{0, 16000, 0}}, impl.Fact{A: 2, B: 1, By: 0}, ". 0+16000 0+16000"},
		{impl.Offsets{Up: []int{0, 0, 2}, By: []int{0, 16000, 0}}, impl.Fact{A: 2, B: 1, By: -1}, ""},
		{impl.Offsets{Up: []int{0, 0, 2}, By: []int{0, 16000, 0}}, impl.Fact{A: 2, B: 1, By: 1}, ". 0+16000 0+15999"},
		{impl.Offsets{Up: []int{0, 0, 2}, By: []int{0, -16000, 0}}, impl.Fact{A: 1, B: 2, By: 0}, ". 0+-16000 0+-16000"},
		{impl.Offsets{Up: []int{0, 0, 2}, By: []int{0, -16000, 0}}, impl.Fact{A: 1, B: 2, By: -1}, ""},
		{impl.Offsets{Up: []int{0, 0, 2}, By: []int{0, -16000, 0}}, impl.Fact{A: 2, B: 1, By: 1}, ""},
		{impl.Offsets{Up: []int{0, 0, 2}, By: []int{0, -15000, 0}}, impl.Fact{A: 2, B: 1, By: 1000}, ". 0+-15000 0+-16000"},
		{impl.Offsets{Up: []int{0, 0, 2}, By: []int{0, 15001, 0}}, impl.Fact{A: 1, B: 2, By: 1000}, ""},
		// 1 goes under 2, and 0 is moved along with it.
		{impl.Offsets{Up: []int{1, 1, 2, 2, 2}, By: []int{16000, 0, 0, 0, 0}}, impl.Fact{A: 0, B: 3, By: 0}, "1+16000 2+-16000 . 2+0 2+0"},
		{impl.Offsets{Up: []int{1, 1, 2, 2, 2}, By: []int{16000, 0, 0, 0, 0}}, impl.Fact{A: 0, B: 3, By: 1}, ""},
		{impl.Offsets{Up: []int{1, 1, 2, 2, 2}, By: []int{16000, 0, 0, 16000, 0}}, impl.Fact{A: 0, B: 3, By: 1000}, "1+16000 2+-1000 . 2+16000 2+0"},
		{impl.Offsets{Up: []int{1, 1, 2, 2, 2}, By: []int{16000, 0, 0, -16000, 0}}, impl.Fact{A: 0, B: 3, By: 1000}, ""},
		// What is not joined is not too great.
		{impl.Offsets{Up: []int{0, 0, 1, 3}, By: []int{0, 16000, 16000, 0}}, impl.Fact{A: 0, B: 2, By: 1000}, ". 0+16000 1+16000 ."},
		{impl.Offsets{Up: []int{0, 0, 1, 3}, By: []int{0, 16000, 16000, 0}}, impl.Fact{A: 1, B: 3, By: 0}, ". 0+16000 1+16000 0+16000"},
		{impl.Offsets{Up: []int{0, 0, 1, 3}, By: []int{0, 16000, 16000, 0}}, impl.Fact{A: 2, B: 3, By: -1000}, ""},
	} {
		checkTell(t, c.o, c.f)
		told, word := impl.TellFact(c.o, c.f)
		if text := impl.FormatOffsets(told); text != c.want || (word == "") != (c.want == "") {
			t.Errorf("TellFact(%v, %v) = %q, %q", c.o, c.f, text, word)
		}
	}
}

// TestFactsOfOneItem has the first case to watch.
func TestFactsOfOneItem(t *testing.T) {
	for n := 1; n <= 16; n++ {
		for item := range n {
			for _, by := range []int{0, 1, -1, 1000, -1000} {
				f := impl.Fact{A: item, B: item, By: by}
				word := "wrong"
				if by == 0 {
					word = "known"
				}
				for _, o := range []impl.Offsets{aloneOffsets(n), mixedOffsets(chain(n), 1000, n)} {
					if told, got := impl.TellFact(o, f); got != word || !sameOffsets(told, o) {
						t.Fatalf("TellFact(%v, %v) = %v, %q", o, f, told, got)
					}
				}
				checkTellAll(t, n, []impl.Fact{f})
			}
		}
		checkTellAll(t, n, make([]impl.Fact, 24))
	}
	told, words, ok := impl.TellAll(2, []impl.Fact{{A: 0, B: 0}, {A: 1, B: 1, By: 3}, {A: 1, B: 0, By: 3}, {A: 1, B: 1}})
	if impl.FormatOffsets(told) != ". 0+-3" || !slices.Equal(words, []string{"known", "wrong", "new", "known"}) || !ok {
		t.Errorf("TellAll = %v, %q, %v", told, words, ok)
	}
}

// TestLinksThatAreTurned has the second case to watch: who goes under is told by the sizes, not by the fact.
func TestLinksThatAreTurned(t *testing.T) {
	for _, c := range []struct {
		o    string
		f    impl.Fact
		want string
	}{
		{". .", impl.Fact{A: 0, B: 1, By: 5}, ". 0+5"},
		{". .", impl.Fact{A: 1, B: 0, By: 5}, ". 0+-5"},
		{". . 1+7", impl.Fact{A: 0, B: 1, By: 5}, "1+-5 . 1+7"},
		{". . 1+7", impl.Fact{A: 1, B: 0, By: 5}, "1+5 . 1+7"},
		{". . 1+7", impl.Fact{A: 0, B: 2, By: 5}, "1+2 . 1+7"},
		{". . 1+7", impl.Fact{A: 2, B: 0, By: 5}, "1+12 . 1+7"},
		{"1+3 . . 2+-4", impl.Fact{A: 0, B: 3, By: 10}, "1+3 . 1+17 2+-4"},
		{"1+3 . . 2+-4", impl.Fact{A: 3, B: 0, By: 10}, "1+3 . 1+-3 2+-4"},
		{"1+3 . . 2+-4", impl.Fact{A: 3, B: 0, By: 7}, "1+3 . 1+0 2+-4"},
		// Higher, but fewer: the rule is Size.
		{". 0+1 1+1 . 3+2 3+2 3+2", impl.Fact{A: 2, B: 6, By: 9}, "3+-9 0+1 1+1 . 3+2 3+2 3+2"},
		{". 0+1 1+1 . 3+2 3+2 3+2", impl.Fact{A: 6, B: 2, By: 9}, "3+9 0+1 1+1 . 3+2 3+2 3+2"},
	} {
		o := offsetsFromText(t, c.o)
		told, word := impl.TellFact(o, c.f)
		if text := impl.FormatOffsets(told); text != c.want || word != "new" {
			t.Errorf("TellFact(%q, %v) = %q, %q, not %q", c.o, c.f, text, word, c.want)
		}
		// The same fact told the other way around is the same.
		turned, word := impl.TellFact(o, impl.Fact{A: c.f.B, B: c.f.A, By: -c.f.By})
		if !sameOffsets(turned, told) || word != "new" {
			t.Errorf("TellFact(%q, %v, turned) = %v, %q", c.o, c.f, turned, word)
		}
	}
}

// offsetsFromText returns the offsets that are written as a text.
func offsetsFromText(t *testing.T, text string) impl.Offsets {
	t.Helper()
	var o impl.Offsets
	for item, word := range strings.Split(text, " ") {
		link, by := item, 0
		if word != "." {
			above, more, _ := strings.Cut(word, "+")
			link, _ = strconv.Atoi(above)
			by, _ = strconv.Atoi(more)
		}
		o.Up = append(o.Up, link)
		o.By = append(o.By, by)
	}
	if got := impl.FormatOffsets(o); got != text {
		t.Fatalf("FormatOffsets(%v) = %q, not %q", o, got, text)
	}
	return o
}

// TestFactsOneBehindTheOther tells every list of up to three facts of up to three items.
func TestFactsOneBehindTheOther(t *testing.T) {
	for n := 1; n <= 3; n++ {
		for count := range 4 {
			everyFacts(n, count, 1, func(facts []impl.Fact) { checkTellAll(t, n, facts) })
		}
	}
}

// TestManyFacts tells lists of up to 24 facts.
func TestManyFacts(t *testing.T) {
	for seed := range 100 {
		for n := 1; n <= 16; n++ {
			for _, most := range []int{0, 1, 1000} {
				checkTellAll(t, n, mixedFacts(n, seed%25, most, seed))
			}
		}
	}
	// The items of most facts are not together, and all stay as far apart as can be.
	for _, sign := range []int{-1, 1} {
		for seed := range 100 {
			var facts []impl.Fact
			for _, item := range orderOf(15, seed) {
				facts = append(facts, impl.Fact{A: item, B: item + 1, By: sign * 1000})
			}
			facts = append(facts, impl.Fact{A: 0, B: 15, By: sign * 1000})
			checkTellAll(t, 16, facts)
			o, words, _ := impl.TellAll(16, facts)
			if by, ok := impl.DiffOf(o, 0, 15); by != sign*15000 || !ok || !impl.OffsetsValid(o) || words[15] != "wrong" {
				t.Fatalf("TellAll(%v) = %v, %q", facts, o, words)
			}
			flat, ok := impl.FlatOffsets(o)
			if !ok || !impl.SameClasses(flat.Up, o.Up) {
				t.Fatalf("FlatOffsets(%v) = %v, %v", o, flat, ok)
			}
		}
	}
}

// orderOf returns the numbers below n in some order, another one for each seed.
func orderOf(n, seed int) []int {
	order := alone(n)
	for i, p := range mixedPairs(n, n, seed) {
		order[i], order[p.A] = order[p.A], order[i]
	}
	return order
}

// TestFactsThatAreNotValid gives facts of no such items, too great ones, too many, and no such number of items.
func TestFactsThatAreNotValid(t *testing.T) {
	for _, n := range []int{0, -1, 17, math.MinInt, math.MaxInt} {
		checkNotTold(t, n, nil)
		checkNotTold(t, n, []impl.Fact{{}})
	}
	for n := 1; n <= 16; n++ {
		checkTellAll(t, n, nil)
		checkTellAll(t, n, mixedFacts(n, 24, 1000, n))
		checkNotTold(t, n, mixedFacts(n, 25, 1000, n))
		checkNotTold(t, n, make([]impl.Fact, 25))
		checkNotTold(t, n, make([]impl.Fact, 100000))
		for _, f := range noFactsOf(n) {
			checkNotTold(t, n, []impl.Fact{f})
			checkNotTold(t, n, []impl.Fact{{A: 0, B: n - 1, By: 1}, f})
			checkNotTold(t, n, []impl.Fact{f, {A: 0, B: n - 1, By: 1}})
			// Also behind one that is wrong.
			checkNotTold(t, n, []impl.Fact{{By: 1}, f})
		}
	}
	told, words, ok := impl.TellAll(2, []impl.Fact{{A: 0, B: 1, By: 1000}, {A: 1, B: 0, By: -1000}, {A: 0, B: 0, By: -1000}})
	if impl.FormatOffsets(told) != ". 0+1000" || !slices.Equal(words, []string{"new", "known", "wrong"}) || !ok {
		t.Errorf("TellAll = %v, %q, %v", told, words, ok)
	}
}

// haveValues reports whether there are values of n items from least to most that fit all facts.
func haveValues(n, least, most int, facts []impl.Fact) bool {
	found := false
	everyList(n, least, most, func(values []int) {
		fits := func(f impl.Fact) bool { return values[f.B]-values[f.A] == f.By }
		found = found || !slices.ContainsFunc(facts, func(f impl.Fact) bool { return !fits(f) })
	})
	return found
}

// TestFactsThatFitTogetherHaveValues tries all values for facts of three items,
// and tells of many items only what fits values that they have.
func TestFactsThatFitTogetherHaveValues(t *testing.T) {
	for count := 1; count <= 3; count++ {
		everyFacts(3, count, 1, func(facts []impl.Fact) {
			at, ok := impl.FirstWrong(3, facts)
			// If they have values, these are at most two steps of 1 from each other.
			fitting := facts
			if at >= 0 {
				fitting = facts[:at]
			}
			if !ok || !haveValues(3, 0, 2, fitting) || at >= 0 && haveValues(3, 0, 2, facts[:at+1]) {
				t.Fatalf("FirstWrong(3, %v) = %d, %v", facts, at, ok)
			}
		})
	}
	for seed := range 200 {
		n := 16 - seed%3
		var values []int
		for _, p := range mixedPairs(1001, n, seed) {
			values = append(values, p.A)
		}
		facts := mixedFacts(n, 24, 0, seed)
		for i := range facts {
			facts[i].By = values[facts[i].B] - values[facts[i].A]
		}
		o, words, ok := impl.TellAll(n, facts)
		if at, fits := impl.FirstWrong(n, facts); !ok || slices.Contains(words, "wrong") || at != -1 || !fits {
			t.Fatalf("TellAll(%d, %v) = %v, %q, %v", n, facts, o, words, ok)
		}
		got, _ := impl.ValuesOf(o)
		for item := range values {
			first := classInModel(o.Up, item)[0]
			if got[item] != values[item]-values[first] {
				t.Fatalf("ValuesOf(%v) = %v, not from %v", o, got, values)
			}
		}
		// Whoever tells wrong facts in between is not believed.
		for i := range facts {
			liar := facts[i]
			liar.By = (liar.By+1001)%2001 - 1000
			told, word := impl.TellFact(o, liar)
			if liar.By == facts[i].By || word != "wrong" || !sameOffsets(told, o) {
				t.Fatalf("TellFact(%v, %v) = %v, %q", o, liar, told, word)
			}
		}
	}
}

// TestFlatOffsetsTellTheSame holds offsets against flat ones that facts make.
func TestFlatOffsetsTellTheSame(t *testing.T) {
	for seed := range 200 {
		o, _, _ := impl.TellAll(16, mixedFacts(16, seed%25, 1000, seed))
		checkOffsets(t, o)
		flat, ok := impl.FlatOffsets(o)
		values, _ := impl.ValuesOf(o)
		flatValues, _ := impl.ValuesOf(flat)
		if !ok || impl.DeepestOf(flat.Up) > 1 || !slices.Equal(values, flatValues) {
			t.Fatalf("FlatOffsets(%v) = %v, %v", o, flat, ok)
		}
		again, ok := impl.FlatOffsets(flat)
		checkAreOffsets(t, "FlatOffsets of flat ones", again, ok, flat)
	}
}

// factsPattern matches the texts of valid facts.
var factsPattern = func() *regexp.Regexp {
	const item, by = `([0-9]|1[0-5])`, `(0|-?[1-9][0-9]{0,2}|-?1000)`
	const fact = item + `\+` + by + `=` + item
	return regexp.MustCompile(`^(-|` + fact + `( ` + fact + `){0,23})$`)
}()

// checkFactText parses a text that may be one of valid facts or not.
func checkFactText(t *testing.T, text string) {
	t.Helper()
	facts, ok := impl.ParseFacts(text)
	if ok != factsPattern.MatchString(text) {
		t.Fatalf("ParseFacts(%.60q) = %v, %v", text, facts, ok)
	}
	if ok && factsTextInModel(facts) != text || !ok && len(facts) != 0 {
		t.Fatalf("ParseFacts(%.60q) = %v, %v", text, facts, ok)
	}
}

// TestSmallFactTexts parses every text of up to 7 bytes of some with which facts are written.
func TestSmallFactTexts(t *testing.T) {
	const letters = "+=-016 "
	for length := range 8 {
		everyList(length, 0, len(letters)-1, func(list []int) {
			text := ""
			for _, at := range list {
				text += letters[at : at+1]
			}
			checkFactText(t, text)
		})
	}
}

// TestSpoiltFactTexts parses texts of facts that are spoilt in one place.
func TestSpoiltFactTexts(t *testing.T) {
	const letters = "+=-0159 .:\n\x00\xff_x"
	for _, text := range []string{"-", "0+5=1", "0+-5=1", "15+1000=15", "15+-1000=14", "0+5=1 1+2=2 0+7=2 2+1=0", "3+-10=2 10+999=0"} {
		checkFactText(t, text)
		for at := range len(text) {
			checkFactText(t, text[:at]+text[at+1:])
			checkFactText(t, text[:at])
			checkFactText(t, text[at:])
			for _, letter := range strings.Split(letters, "") {
				checkFactText(t, text[:at]+letter+text[at+1:])
				checkFactText(t, text[:at]+letter+text[at:])
				checkFactText(t, text+letter)
			}
		}
	}
}

func TestFactTexts(t *testing.T) {
	for seed := range 300 {
		facts := mixedFacts(16, seed%25, []int{3, 30, 300, 1000}[seed%4], seed)
		text := impl.FormatFacts(facts)
		if text != factsTextInModel(facts) {
			t.Fatalf("FormatFacts(%v) = %q", facts, text)
		}
		if parsed, ok := impl.ParseFacts(text); !ok || !slices.Equal(parsed, facts) {
			t.Fatalf("ParseFacts(%q) = %v, %v", text, parsed, ok)
		}
	}
	if text := impl.FormatFacts(nil); text != "-" {
		t.Errorf("FormatFacts(none) = %q", text)
	}
	if facts, ok := impl.ParseFacts("-"); len(facts) != 0 || !ok {
		t.Errorf("ParseFacts(-) = %v, %v", facts, ok)
	}
	for _, f := range noFactsOf(16) {
		for _, facts := range [][]impl.Fact{{f}, {{A: 1, B: 2, By: 3}, f}, {f, {A: 1, B: 2, By: 3}}} {
			if text := impl.FormatFacts(facts); text != "" {
				t.Errorf("FormatFacts(%v) = %q", facts, text)
			}
		}
	}
	if text := impl.FormatFacts(make([]impl.Fact, 25)); text != "" {
		t.Errorf("FormatFacts(25 facts) = %q", text)
	}
	most := strings.Repeat("15+-1000=15 ", 23) + "15+-1000=15"
	if text := impl.FormatFacts(slices.Repeat([]impl.Fact{{A: 15, B: 15, By: -1000}}, 24)); text != most {
		t.Errorf("FormatFacts(24 facts) = %q", text)
	}
	checkFactText(t, most)
	for _, text := range []string{
		"", " ", "--", "- ", " -", "- -", "-\n", "0", "0+", "0+1", "0+1=", "+1=0", "0+=0", "0=1", "=", "+", "+=", "0=1+2", "0+1=2=3", "0+1+2=3", "0-1=2",
		"0+1=16", "16+1=0", "-1+1=0", "0+1=-1", "0+1001=1", "0+-1001=1", "0+01=1", "0+-01=1", "0+-0=1", "0++1=1", "0+--1=1", "00+1=1", "0+1=01", "+0+1=1", "0+1=+1",
		"0+1=1 ", " 0+1=1", "0+1=1  1+1=2", "0+1=1 -", "- 0+1=1", "0+1=1\t1+1=2", "0+1=1\n", "0+1=1,1+1=2", "0 + 1 = 1", "0+1 =1", "0+−1=1", "０+1=1",
		"0x1+1=1", "1_0+1=1", "0+1_0=1", "0+1.0=1", "0+1e0=1", "a+1=1", "a+b=c", "0+18446744073709551616=1", "0+1=18446744073709551616", "4294967296+1=0", "0+4294967297=0",
		"\x00+1=1", "0+1=\xff", most + " 0+1=1", most + " ", most + "-", most + "\n", " " + most,
		strings.Repeat("0+1=1 ", 100000) + "0+1=1", strings.Repeat("0", 100000), strings.Repeat("+", 100000), strings.Repeat("=", 100000),
	} {
		if facts, ok := impl.ParseFacts(text); len(facts) != 0 || ok {
			t.Errorf("ParseFacts(%.40q) = %v, %v", text, facts, ok)
		}
	}
}

// TestOffsetsExample is the example of chapter 5.
func TestOffsetsExample(t *testing.T) {
	facts, ok := impl.ParseFacts("0+5=1 1+2=2 0+7=2 2+1=0")
	if !ok || !slices.Equal(facts, []impl.Fact{{A: 0, B: 1, By: 5}, {A: 1, B: 2, By: 2}, {A: 0, B: 2, By: 7}, {A: 2, B: 0, By: 1}}) {
		t.Fatalf("ParseFacts = %v, %v", facts, ok)
	}
	o, words, ok := impl.TellAll(3, facts)
	if !ok || !slices.Equal(words, []string{"new", "new", "known", "wrong"}) {
		t.Errorf("TellAll = %v, %q, %v", o, words, ok)
	}
	if at, ok := impl.FirstWrong(3, facts); at != 3 || !ok {
		t.Errorf("FirstWrong = %d, %v", at, ok)
	}
}

// overwriteOffsets sets all numbers of offsets, those in unused capacity included.
func overwriteOffsets(o impl.Offsets) {
	overwrite(o.Up)
	overwrite(o.By)
}

// TestOffsetsAreNew overwrites results, and looks whether anything else changes.
func TestOffsetsAreNew(t *testing.T) {
	upMemory := []int{0, 0, 1, 3, 99, 99}
	byMemory := []int{0, 5, 2, 0, 99, 99}
	factMemory := []impl.Fact{{A: 0, B: 1, By: 5}, {A: 1, B: 2, By: 2}, {A: 0, B: 0, By: 1}, {A: 99, B: 99, By: 99}}
	o := impl.Offsets{Up: upMemory[:4], By: byMemory[:4]}
	for range 2 {
		fresh, _ := impl.NewOffsets(4)
		all, words, _ := impl.TellAll(4, factMemory[:3])
		joined, _ := impl.TellFact(o, impl.Fact{A: 2, B: 3, By: 1})
		known, _ := impl.TellFact(o, impl.Fact{A: 0, B: 2, By: 7})
		wrong, _ := impl.TellFact(o, impl.Fact{A: 0, B: 2, By: 8})
		flat, _ := impl.FlatOffsets(o)
		values, _ := impl.ValuesOf(o)
		if impl.FormatOffsets(all) != ". 0+5 0+7 ." || !slices.Equal(words, []string{"new", "new", "wrong"}) {
			t.Fatalf("TellAll = %v, %q", all, words)
		}
		for _, result := range []impl.Offsets{fresh, all, joined, known, wrong, flat} {
			overwriteOffsets(result)
			checkOffsets(t, o, 1)
		}
		overwrite(values)
		words = words[:cap(words)]
		for i := range words {
			words[i] = "?"
		}
		parsed, _ := impl.ParseFacts("0+5=1")
		if !slices.Equal(parsed, factMemory[:1]) {
			t.Fatalf("ParseFacts = %v", parsed)
		}
		parsed[:cap(parsed)][0] = impl.Fact{A: -7, B: -7, By: -7}
		checkOffsets(t, o, 1)
	}
	if !slices.Equal(upMemory, []int{0, 0, 1, 3, 99, 99}) || !slices.Equal(byMemory, []int{0, 5, 2, 0, 99, 99}) {
		t.Errorf("the offsets have become %v, %v", upMemory, byMemory)
	}
	if !slices.Equal(factMemory, []impl.Fact{{A: 0, B: 1, By: 5}, {A: 1, B: 2, By: 2}, {A: 0, B: 0, By: 1}, {A: 99, B: 99, By: 99}}) {
		t.Errorf("the facts have become %v", factMemory)
	}
}
