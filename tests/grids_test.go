package tests

import (
	"math"
	"slices"
	"strings"
	"testing"

	"loop.example/linkedroots/impl"
)

// The expectations for many grids come from this model. It gives each open cell
// the least number of those to which one comes, by looking at all cells again
// until nothing changes.

func gridValidInModel(rows []string) bool {
	if len(rows) == 0 || len(rows) > 6 {
		return false
	}
	for _, row := range rows {
		if len(row) == 0 || len(row) > 6 || len(row) != len(rows[0]) {
			return false
		}
		for i := range len(row) {
			if row[i] != '.' && row[i] != '#' {
				return false
			}
		}
	}
	return true
}

// nextInModel reports whether two cells of a grid of this width lie next to each other.
func nextInModel(wide, a, b int) bool {
	down, right := a/wide-b/wide, a%wide-b%wide
	return down*down+right*right == 1
}

// firstsInModel returns for each cell of a valid grid the first cell of its
// region, and -1 if it is not open.
func firstsInModel(rows []string) []int {
	cells, wide := strings.Join(rows, ""), len(rows[0])
	firsts := make([]int, len(cells))
	for cell := range cells {
		firsts[cell] = -1
		if cells[cell] == '.' {
			firsts[cell] = cell
		}
	}
	for changed := true; changed; {
		changed = false
		for _, p := range everyPair(len(cells)) {
			if nextInModel(wide, p.A, p.B) && firsts[p.B] >= 0 && firsts[p.A] > firsts[p.B] {
				firsts[p.A] = firsts[p.B]
				changed = true
			}
		}
	}
	return firsts
}

// regionsInModel counts the cells of each region.
func regionsInModel(firsts []int) []int {
	var regions []int
	for cell, first := range firsts {
		if first != cell {
			continue
		}
		count := 0
		for _, other := range firsts {
			if other == first {
				count++
			}
		}
		regions = append(regions, count)
	}
	return regions
}

// fillInModel returns the rows with a mark for what lies in the region of an open cell of the first row.
func fillInModel(rows []string, firsts []int) []string {
	wide := len(rows[0])
	cells := []byte(strings.Join(rows, ""))
	for cell, first := range firsts {
		if first >= 0 && first < wide {
			cells[cell] = 'o'
		}
	}
	return cutInModel(cells, wide)
}

// cutInModel returns rows of so many cells each.
func cutInModel(cells []byte, wide int) []string {
	var rows []string
	for row := range slices.Chunk(cells, wide) {
		rows = append(rows, string(row))
	}
	return rows
}

// openInModel returns the rows in which cells are open, too.
func openInModel(rows []string, cells []int) []string {
	all := []byte(strings.Join(rows, ""))
	for _, cell := range cells {
		all[cell] = '.'
	}
	return cutInModel(all, len(rows[0]))
}

func letsThroughInModel(rows []string) bool {
	return strings.Contains(fillInModel(rows, firstsInModel(rows))[len(rows)-1], "o")
}

// firstThroughInModel makes a grid of its own for each number of cells.
func firstThroughInModel(rows []string, cells []int) int {
	for count := range len(cells) + 1 {
		if letsThroughInModel(openInModel(rows, cells[:count])) {
			return count
		}
	}
	return -1
}

func turnInModel(rows []string) []string {
	var turned []string
	for column := range len(rows[0]) {
		line := ""
		for _, row := range rows {
			line += string(row[column])
		}
		turned = append(turned, line)
	}
	return turned
}

// gridOfBits returns the grid whose cell is open if the bit of its number is set.
func gridOfBits(high, wide, bits int) []string {
	cells := make([]byte, high*wide)
	for cell := range cells {
		cells[cell] = "#."[bits>>cell&1]
	}
	return cutInModel(cells, wide)
}

// everySize calls f with all heights and widths of grids of at most so many cells.
func everySize(most int, f func(high, wide int)) {
	for high := 1; high <= 6; high++ {
		for wide := 1; wide <= 6; wide++ {
			if high*wide <= most {
				f(high, wide)
			}
		}
	}
}

// everyGrid calls f with every grid of at most so many cells.
func everyGrid(most int, f func(rows []string)) {
	everySize(most, func(high, wide int) {
		for bits := range 1 << (high * wide) {
			f(gridOfBits(high, wide, bits))
		}
	})
}

// mixedGrid returns a grid of this size, another one for each seed. Of 8 cells,
// from 1 to 7 are open.
func mixedGrid(high, wide, seed int) []string {
	bits := 0
	for cell, p := range mixedPairs(8, high*wide, seed) {
		if p.A <= seed%7 {
			bits |= 1 << cell
		}
	}
	return gridOfBits(high, wide, bits)
}

// mixedCells returns so many cells of a grid, others for each seed; some of them more than once.
func mixedCells(rows []string, count, seed int) []int {
	var cells []int
	for _, p := range mixedPairs(len(rows)*len(rows[0]), count, seed) {
		cells = append(cells, p.B)
	}
	return cells
}

// noCellsOf are numbers that are no cells of a grid.
func noCellsOf(rows []string) []int {
	count := len(rows) * len(rows[0])
	return []int{-1, -2, -len(rows[0]), count, count + 1, count + len(rows[0]), 36, 37, 38, math.MinInt, math.MaxInt}
}

// gridFromText returns the grid that a text with `/` between its rows tells, valid or not.
func gridFromText(text string) []string { return strings.Split(text, "/") }

// checkRows checks that a call has returned these rows, and true.
func checkRows(t *testing.T, call string, before, got []string, ok bool, want []string) {
	t.Helper()
	if !ok || !slices.Equal(got, want) {
		t.Fatalf("%s of %q = %q, %v, not %q", call, before, got, ok, want)
	}
}

// checkNoRows checks that a call has returned an empty slice, and false.
func checkNoRows(t *testing.T, call string, before, got []string, ok bool) {
	t.Helper()
	if len(got) != 0 || ok {
		t.Fatalf("%s of %q = %q, %v", call, before, got, ok)
	}
}

// checkGrid checks all that is told of a valid grid, unless cells are to be opened.
func checkGrid(t *testing.T, rows []string) {
	t.Helper()
	before := slices.Clone(rows)
	firsts := firstsInModel(rows)
	if !impl.GridValid(rows) {
		t.Fatalf("GridValid(%q) = false", rows)
	}
	text := impl.FormatGrid(rows)
	if text != strings.Join(rows, "/") {
		t.Fatalf("FormatGrid(%q) = %q", rows, text)
	}
	parsed, ok := impl.ParseGrid(text)
	checkRows(t, "ParseGrid of the text", rows, parsed, ok, rows)
	if lets := impl.LetsThrough(rows); lets != letsThroughInModel(rows) {
		t.Fatalf("LetsThrough(%q) = %v", rows, lets)
	}
	if regions, ok := impl.RegionsOf(rows); !ok || !slices.Equal(regions, regionsInModel(firsts)) {
		t.Fatalf("RegionsOf(%q) = %v, %v", rows, regions, ok)
	}
	filled, ok := impl.FillFrom(rows)
	checkRows(t, "FillFrom", rows, filled, ok, fillInModel(rows, firsts))
	turned, ok := impl.TurnGrid(rows)
	checkRows(t, "TurnGrid", rows, turned, ok, turnInModel(rows))
	back, ok := impl.TurnGrid(turned)
	checkRows(t, "TurnGrid of TurnGrid", rows, back, ok, rows)
	if !slices.Equal(rows, before) {
		t.Fatalf("%q has become %q", before, rows)
	}
}

// checkInvalidGrid checks all that is told of rows that are no grid.
func checkInvalidGrid(t *testing.T, rows []string) {
	t.Helper()
	before := slices.Clone(rows)
	if impl.GridValid(rows) || impl.LetsThrough(rows) {
		t.Fatalf("GridValid(%q) = %v, LetsThrough %v", rows, impl.GridValid(rows), impl.LetsThrough(rows))
	}
	if text := impl.FormatGrid(rows); text != "" {
		t.Fatalf("FormatGrid(%q) = %q", rows, text)
	}
	if regions, ok := impl.RegionsOf(rows); len(regions) != 0 || ok {
		t.Fatalf("RegionsOf(%q) = %v, %v", rows, regions, ok)
	}
	filled, ok := impl.FillFrom(rows)
	checkNoRows(t, "FillFrom", rows, filled, ok)
	turned, ok := impl.TurnGrid(rows)
	checkNoRows(t, "TurnGrid", rows, turned, ok)
	for _, cells := range [][]int{nil, {0}, {-1}, make([]int, 36), make([]int, 37)} {
		checkNotOpened(t, rows, cells)
	}
	if !slices.Equal(rows, before) {
		t.Fatalf("%q has become %q", before, rows)
	}
}

// checkAnyGrid checks rows that may be a grid or not.
func checkAnyGrid(t *testing.T, rows []string) {
	t.Helper()
	if gridValidInModel(rows) {
		checkGrid(t, rows)
	} else {
		checkInvalidGrid(t, rows)
	}
}

// checkOpened checks what comes of a valid grid when some of its cells are opened.
func checkOpened(t *testing.T, rows []string, cells []int) {
	t.Helper()
	before, order := slices.Clone(rows), slices.Clone(cells)
	opened, ok := impl.OpenAll(rows, cells)
	if want := openInModel(rows, cells); !ok || !slices.Equal(opened, want) {
		t.Fatalf("OpenAll(%q, %v) = %q, %v, not %q", rows, cells, opened, ok, want)
	}
	count, ok := impl.FirstThrough(rows, cells)
	if want := firstThroughInModel(rows, cells); !ok || count != want {
		t.Fatalf("FirstThrough(%q, %v) = %d, %v, not %d", rows, cells, count, ok, want)
	}
	if !slices.Equal(rows, before) || !slices.Equal(cells, order) {
		t.Fatalf("%q has become %q, and %v %v", before, rows, order, cells)
	}
}

// checkNotOpened checks that these cells can't be opened.
func checkNotOpened(t *testing.T, rows []string, cells []int) {
	t.Helper()
	if opened, ok := impl.OpenAll(rows, cells); len(opened) != 0 || ok {
		t.Fatalf("OpenAll(%q, %v) = %q, %v", rows, cells, opened, ok)
	}
	if count, ok := impl.FirstThrough(rows, cells); count != -1 || ok {
		t.Fatalf("FirstThrough(%q, %v) = %d, %v", rows, cells, count, ok)
	}
}

// TestEverySmallGrid looks at all grids of up to 12 cells.
func TestEverySmallGrid(t *testing.T) {
	everyGrid(12, func(rows []string) { checkGrid(t, rows) })
}

// TestLargeGrids looks at grids of all sizes, and at some by which one comes far around.
func TestLargeGrids(t *testing.T) {
	everySize(36, func(high, wide int) {
		for seed := range 35 {
			checkGrid(t, mixedGrid(high, wide, seed+high*wide))
		}
		checkGrid(t, gridOfBits(high, wide, 0))
		checkGrid(t, gridOfBits(high, wide, -1))
	})
	for _, c := range []struct {
		text, filled string
		lets         bool
		regions      []int
	}{
		// To and fro, and down, up and down, through and not.
		{"....../#####./....../.#####/....../#####.", "oooooo/#####o/oooooo/o#####/oooooo/#####o", true, []int{21}},
		{".#####/.#...#/.#.#.#/.#.#.#/...#.#/####.#", "o#####/o#ooo#/o#o#o#/o#o#o#/ooo#o#/####o#", true, []int{16}},
		{".#####/.#...#/.#.#.#/.#.#.#/...###/####.#", "o#####/o#ooo#/o#o#o#/o#o#o#/ooo###/####.#", false, []int{14, 1}},
		// One row is not open, at either end.
		{"######/....../....../....../....../......", "######/....../....../....../....../......", false, []int{30}},
		{"....../....../....../....../....../######", "oooooo/oooooo/oooooo/oooooo/oooooo/######", false, []int{30}},
	} {
		checkTold(t, c.text, c.filled, c.lets, c.regions)
	}
}

// checkTold checks what is told of the grid of a text.
func checkTold(t *testing.T, text, filled string, lets bool, regions []int) {
	t.Helper()
	rows, ok := impl.ParseGrid(text)
	checkRows(t, "ParseGrid", rows, rows, ok, gridFromText(text))
	checkGrid(t, rows)
	got, ok := impl.FillFrom(rows)
	checkRows(t, "FillFrom", rows, got, ok, gridFromText(filled))
	if got := impl.LetsThrough(rows); got != lets {
		t.Errorf("LetsThrough(%q) = %v", text, got)
	}
	if got, ok := impl.RegionsOf(rows); !ok || !slices.Equal(got, regions) {
		t.Errorf("RegionsOf(%q) = %v, %v", text, got, ok)
	}
}

// TestGridsOfOneRow has the first case to watch: the first row is the last one,
// too, so that one open cell lets through; and grids of one column.
func TestGridsOfOneRow(t *testing.T) {
	for wide := 1; wide <= 6; wide++ {
		for bits := range 1 << wide {
			rows := gridOfBits(1, wide, bits)
			checkGrid(t, rows)
			if lets := impl.LetsThrough(rows); lets != (bits != 0) {
				t.Errorf("LetsThrough(%q) = %v", rows, lets)
			}
			filled, ok := impl.FillFrom(rows)
			checkRows(t, "FillFrom", rows, filled, ok, []string{strings.ReplaceAll(rows[0], ".", "o")})
			for cell := range wide {
				opened, ok := impl.FirstThrough(rows, []int{cell})
				if want := 1 - min(bits, 1); !ok || opened != want {
					t.Errorf("FirstThrough(%q, %d) = %d, %v", rows, cell, opened, ok)
				}
			}
			if opened, ok := impl.FirstThrough(rows, nil); !ok || opened != min(bits, 1)-1 {
				t.Errorf("FirstThrough(%q, none) = %d, %v", rows, opened, ok)
			}
			column, _ := impl.TurnGrid(rows)
			if lets := impl.LetsThrough(column); lets != (bits == 1<<wide-1) || len(column) != wide {
				t.Errorf("LetsThrough(%q) = %v", column, lets)
			}
		}
	}
	checkTold(t, ".", "o", true, []int{1})
	checkTold(t, "#", "#", false, nil)
	checkTold(t, "..#.##", "oo#o##", true, []int{2, 1})
	checkTold(t, "./#/.", "o/#/.", false, []int{1, 1})
	checkTold(t, "././.", "o/o/o", true, []int{3})
}

// TestCellsThatAreOpenAlready has the second case to watch: they count among the first cells all the same.
func TestCellsThatAreOpenAlready(t *testing.T) {
	for _, c := range []struct {
		text  string
		cells []int
		want  string
		count int
	}{
		{".#/##", []int{0, 0, 2}, ".#/.#", 3},
		{".#/##", []int{2, 0, 0}, ".#/.#", 1},
		{".#/.#", []int{0, 2}, ".#/.#", 0},
		{".#/.#", []int{1, 3}, "../..", 0},
		{"##/##", []int{1, 1, 1, 3, 3}, "#./#.", 4},
		{"###/#.#/###", []int{4, 1, 4, 1, 7, 8}, "#.#/#.#/#..", 5},
		{"###/#.#/###", []int{4, 4, 4}, "###/#.#/###", -1},
		{".#./.#./#.#", []int{0, 2, 3, 5, 7}, ".#./.#./#.#", -1},
		{".#./.#./#.#", []int{0, 2, 3, 5, 7, 4}, ".#./.../#.#", 6},
	} {
		rows := gridFromText(c.text)
		checkOpened(t, rows, c.cells)
		opened, ok := impl.OpenAll(rows, c.cells)
		checkRows(t, "OpenAll", rows, opened, ok, gridFromText(c.want))
		if count, _ := impl.FirstThrough(rows, c.cells); count != c.count {
			t.Errorf("FirstThrough(%q, %v) = %d, not %d", c.text, c.cells, count, c.count)
		}
	}
	// To open what is open changes nothing.
	everyGrid(9, func(rows []string) {
		var open []int
		for cell, first := range firstsInModel(rows) {
			if first >= 0 {
				open = append(open, cell)
			}
		}
		opened, ok := impl.OpenAll(rows, open)
		checkRows(t, "OpenAll of what is open", rows, opened, ok, rows)
		if count, ok := impl.FirstThrough(rows, open); !ok || (count == 0) != impl.LetsThrough(rows) || count > 0 {
			t.Fatalf("FirstThrough(%q, %v) = %d, %v", rows, open, count, ok)
		}
	})
}

// TestRegionsThatTouchAtCorners has the third case to watch: one does not come over a corner.
func TestRegionsThatTouchAtCorners(t *testing.T) {
	checkTold(t, ".#/#.", "o#/#.", false, []int{1, 1})
	checkTold(t, "#./.#", "#o/.#", false, []int{1, 1})
	checkTold(t, ".#./#.#/.#.", "o#o/#.#/.#.", false, []int{1, 1, 1, 1, 1})
	checkTold(t, "..##/..##/##../##..", "oo##/oo##/##../##..", false, []int{4, 4})
	checkTold(t, "##../##../..##/..##", "##oo/##oo/..##/..##", false, []int{4, 4})
	checkTold(t, "...#../...#../######", "ooo#oo/ooo#oo/######", false, []int{6, 4})
	// Neither does one come from the end of a row to the beginning of the next one.
	checkTold(t, "#./.#/#./.#", "#o/.#/#./.#", false, []int{1, 1, 1, 1})
	checkTold(t, "##../..##/##..", "##oo/..##/##..", false, []int{2, 2, 2})
	checkTold(t, "###./.###", "###o/.###", false, []int{1, 1})
	// A board of which every other cell is open has as many regions as open cells.
	everySize(36, func(high, wide int) {
		for colour := range 2 {
			bits := 0
			for cell := range high * wide {
				if (cell/wide+cell%wide)%2 == colour {
					bits |= 1 << cell
				}
			}
			rows := gridOfBits(high, wide, bits)
			checkGrid(t, rows)
			regions, _ := impl.RegionsOf(rows)
			if len(regions) != strings.Count(strings.Join(rows, ""), ".") || high > 1 && impl.LetsThrough(rows) {
				t.Errorf("RegionsOf(%q) = %v", rows, regions)
			}
		}
	})
}

// TestEndsJoinNothing has regions that touch the first or the last row: one
// does not come from one to the other over what is beyond it.
func TestEndsJoinNothing(t *testing.T) {
	checkTold(t, ".#./.#./...", "o#o/o#o/ooo", true, []int{7})
	checkTold(t, ".#./.##/.#.", "o#o/o##/o#.", true, []int{3, 1, 1})
	checkTold(t, ".##/.#./.#.", "o##/o#./o#.", true, []int{3, 2})
	checkTold(t, "##./.#./.#.", "##o/.#o/.#o", true, []int{3, 2})
	checkTold(t, ".#./.#./###", "o#o/o#o/###", false, []int{2, 2})
	checkTold(t, "###/.#./.#.", "###/.#./.#.", false, []int{2, 2})
	checkTold(t, ".#####/.#####/.####./.####./.####./.####.", "o#####/o#####/o####./o####./o####./o####.", true, []int{6, 4})
	checkTold(t, ".####./.####./######/######/.####./.####.", "o####o/o####o/######/######/.####./.####.", false, []int{2, 2, 2, 2})
}

// TestOpeningCells opens every list of few cells of small grids.
func TestOpeningCells(t *testing.T) {
	everyGrid(6, func(rows []string) {
		count := len(rows) * len(rows[0])
		for length := range 4 {
			everyList(length, 0, count-1, func(cells []int) { checkOpened(t, rows, cells) })
		}
	})
}

// TestOpeningManyCells opens up to 36 cells of larger grids, also in an order in
// which each comes once.
func TestOpeningManyCells(t *testing.T) {
	for seed := range 60 {
		for _, size := range []int{3, 4, 6} {
			rows := mixedGrid(size, 3+seed%4, seed)
			if seed%2 == 0 {
				rows = gridOfBits(size, 3+seed%4, 0)
			}
			checkOpened(t, rows, mixedCells(rows, seed*36/59, seed))
			checkOpened(t, rows, orderOf(len(rows)*len(rows[0]), seed))
		}
	}
	checkOpened(t, []string{"#"}, make([]int, 36))
	checkOpened(t, []string{"#", "#"}, make([]int, 36))
}

// TestCellsThatThereAreNot opens what is no cell, and too many cells.
func TestCellsThatThereAreNot(t *testing.T) {
	everySize(36, func(high, wide int) {
		// It is so whether the grid lets through or not.
		for _, bits := range []int{0, -1} {
			rows := gridOfBits(high, wide, bits)
			last := high*wide - 1
			for _, none := range noCellsOf(rows) {
				checkNotOpened(t, rows, []int{none})
				checkNotOpened(t, rows, []int{none, 0})
				checkNotOpened(t, rows, []int{0, last, none})
				checkNotOpened(t, rows, append(orderOf(last+1, 0), none))
			}
			most := slices.Repeat([]int{last}, 36)
			checkOpened(t, rows, most)
			checkNotOpened(t, rows, append(most, last))
			checkNotOpened(t, rows, append(most, 99))
			checkNotOpened(t, rows, make([]int, 100000))
			checkOpened(t, rows, nil)
			checkOpened(t, rows, []int{})
		}
	})
}

// TestRowsThatAreNoGrid looks at all lists of up to three rows of up to two
// bytes, and at rows that are too many, too long, or not of one length.
func TestRowsThatAreNoGrid(t *testing.T) {
	parts := []string{"", ".", "#", "..", "#.", "o", ".o", "/", "./", " ", ".\x00", "\xff#", ".\n"}
	valid := 0
	for length := range 4 {
		everyList(length, 0, len(parts)-1, func(chosen []int) {
			rows := make([]string, length)
			for i, at := range chosen {
				rows[i] = parts[at]
			}
			checkAnyGrid(t, rows)
			if gridValidInModel(rows) {
				valid++
			}
		})
	}
	// There are two rows of one cell that are valid, and two of two cells.
	if valid != 2*(2+4+8) {
		t.Errorf("%d grids are valid", valid)
	}
	checkInvalidGrid(t, nil)
	for size := 1; size <= 6; size++ {
		row := strings.Repeat(".", size)
		checkGrid(t, slices.Repeat([]string{row}, 6))
		checkInvalidGrid(t, slices.Repeat([]string{row}, 7))
		checkInvalidGrid(t, slices.Repeat([]string{strings.Repeat(".", 7)}, size))
		checkInvalidGrid(t, slices.Repeat([]string{""}, size))
		for at := range size {
			for _, other := range []string{"", row + ".", row[1:], "." + row + ".", strings.Repeat(".", 100000)} {
				rows := slices.Repeat([]string{row}, size)
				rows[at] = other
				checkAnyGrid(t, rows)
			}
		}
	}
	checkInvalidGrid(t, make([]string, 100000))
	checkInvalidGrid(t, slices.Repeat([]string{"."}, 100000))
	// A byte that is no mark, in each place of the largest grid.
	for cell := range 36 {
		for _, mark := range []byte{'o', 'x', '/', ' ', 0, 0x80, 0xff, '-', '"'} {
			cells := []byte(strings.Repeat(".#", 18))
			cells[cell] = mark
			checkInvalidGrid(t, cutInModel(cells, 6))
		}
	}
	// One letter of two or three bytes, in place of as many cells.
	checkInvalidGrid(t, []string{"..", "\u00e9"})
	checkInvalidGrid(t, []string{"\u2026", "..."})
}

// checkGridText checks whether there is a grid of a text, and which one.
func checkGridText(t *testing.T, text string) {
	t.Helper()
	rows, ok := impl.ParseGrid(text)
	if want := gridFromText(text); gridValidInModel(want) {
		checkRows(t, "ParseGrid", want, rows, ok, want)
	} else if len(rows) != 0 || ok {
		t.Fatalf("ParseGrid(%q) = %q, %v", text, rows, ok)
	}
}

// TestGridTexts parses every short text, and some longer ones.
func TestGridTexts(t *testing.T) {
	const bytes = "./#o \n"
	for length := range 7 {
		everyList(length, 0, len(bytes)-1, func(chosen []int) {
			text := ""
			for _, at := range chosen {
				text += bytes[at : at+1]
			}
			checkGridText(t, text)
		})
	}
	everySize(36, func(high, wide int) {
		text := strings.Join(mixedGrid(high, wide, high+7*wide), "/")
		for _, other := range []string{text, text + "/", "/" + text, text + " ", " " + text, text + ".", "#" + text, text + "/" + text, text + "\n", text + "//" + text, strings.ReplaceAll(text, "/", "//"), strings.ReplaceAll(text, "/", ""), strings.ReplaceAll(text, "/", "\\")} {
			checkGridText(t, other)
		}
	})
	checkGridText(t, strings.Repeat("./", 100000))
	checkGridText(t, strings.Repeat(".", 100000))
	checkGridText(t, strings.Repeat("/", 100000))
}

// TestGridsAreFoundAgain holds what is told of a grid against what is told when
// it is turned, or stands on its head.
func TestGridsAreFoundAgain(t *testing.T) {
	everySize(36, func(high, wide int) {
		for seed := range 20 {
			rows := mixedGrid(high, wide, seed+100)
			head := slices.Clone(rows)
			slices.Reverse(head)
			if impl.LetsThrough(rows) != impl.LetsThrough(head) {
				t.Fatalf("LetsThrough(%q) = %v", head, impl.LetsThrough(head))
			}
			turned, _ := impl.TurnGrid(rows)
			mine, _ := impl.RegionsOf(rows)
			others, _ := impl.RegionsOf(turned)
			slices.Sort(mine)
			slices.Sort(others)
			if !slices.Equal(mine, others) {
				t.Fatalf("RegionsOf(%q) has %v, not %v", turned, others, mine)
			}
		}
	})
}

// TestWhatLetsThroughGoesOn holds the promise: behind the first cells at which a
// grid lets through it does so whatever is opened, and before it does not.
func TestWhatLetsThroughGoesOn(t *testing.T) {
	for seed := range 60 {
		rows := gridOfBits(1+seed%6, 1+seed/6%6, 0)
		cells := orderOf(len(rows)*len(rows[0]), seed)
		first, ok := impl.FirstThrough(rows, cells)
		if !ok || first < len(rows) {
			t.Fatalf("FirstThrough(%q, %v) = %d, %v", rows, cells, first, ok)
		}
		filled := 0
		for count := range len(cells) + 1 {
			opened, _ := impl.OpenAll(rows, cells[:count])
			if lets := impl.LetsThrough(opened); lets != (count >= first) {
				t.Fatalf("LetsThrough(%q) = %v, but FirstThrough %d", opened, lets, first)
			}
			if left, _ := impl.FirstThrough(opened, cells[count:]); left != max(0, first-count) {
				t.Fatalf("FirstThrough(%q, %v) = %d", opened, cells[count:], left)
			}
			fill, _ := impl.FillFrom(opened)
			now := strings.Count(strings.Join(fill, ""), "o")
			if now < filled {
				t.Fatalf("FillFrom(%q) = %q, less than before", opened, fill)
			}
			filled = now
		}
	}
}

// TestGridsExample is the example of chapter 8.
func TestGridsExample(t *testing.T) {
	checkTold(t, "#.#/..#/#.#", "#o#/oo#/#o#", true, []int{4})
	if impl.MaxSide != 6 {
		t.Errorf("MaxSide = %d", impl.MaxSide)
	}
}

// TestGridsAreNew overwrites results, and looks whether anything else changes.
func TestGridsAreNew(t *testing.T) {
	rowMemory, cellMemory := []string{"#.#", "..#", "###", "beyond"}, []int{8, 7, 99}
	rows, cells := rowMemory[:3], cellMemory[:2]
	for range 2 {
		parsed, _ := impl.ParseGrid("#.#/..#/###")
		opened, _ := impl.OpenAll(rows, cells)
		same, _ := impl.OpenAll(rows, nil)
		filled, _ := impl.FillFrom(rows)
		turned, _ := impl.TurnGrid(rows)
		regions, _ := impl.RegionsOf(rows)
		overwrite(regions)
		for _, list := range [][]string{parsed, opened, same, filled, turned} {
			list = list[:cap(list)]
			for i := range list {
				list[i] = "written over"
			}
			checkGrid(t, rows)
			checkOpened(t, rows, cells)
		}
	}
	if !slices.Equal(rowMemory, []string{"#.#", "..#", "###", "beyond"}) || !slices.Equal(cellMemory, []int{8, 7, 99}) {
		t.Errorf("the arguments have become %q, %v", rowMemory, cellMemory)
	}
}
