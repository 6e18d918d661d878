package hush_test

import (
	"math"
	"math/rand"
	"strconv"
	"strings"
	"testing"

	"hush/hush"
)

// packed lets a test write an order or a program with blanks between its parts.
func packed(text string) string { return strings.ReplaceAll(text, " ", "") }

var (
	chain2  = packed("2 01")
	diamond = packed("4 01 02 13 23")
	chain8  = packed("8 01 12 23 34 45 56 67")
	cube    = packed("8 01 02 04 13 15 23 26 45 46 37 57 67")
)

func wantOrder(t *testing.T, order string, errno hush.Errno, place int) {
	t.Helper()
	e, at := hush.Order(order)
	if e != errno || at != place {
		t.Errorf("Order(%q) = %d, %d, want %d, %d", order, e, at, errno, place)
	}
}

func wantJoin(t *testing.T, order string, a, b, join int, errno hush.Errno) {
	t.Helper()
	j, e := hush.Join(order, a, b)
	if j != join || e != errno {
		t.Errorf("Join(%q, %d, %d) = %d, %d, want %d, %d", order, a, b, j, e, join, errno)
	}
}

func TestP3WellOrdered(t *testing.T) {
	for _, order := range []string{
		"1", "1 00", "1 00 00", "2 01", "2 10", "2 00 01 11 01",
		"3 01 12", "3 12 01", "3 01 12 02", "3 21 10", "4 23 12 01", "4 01 23 12",
		"4 01 02 13 23", "4 31 32 10 20",
		"5 01 02 03 14 24 34", "5 01 12 24 03 34",
		"8 76 65 54 43 32 21 10", "8 67 45 23 01 56 34 12",
		"8 01 02 03 04 05 06 17 27 37 47 57 67",
		chain8, cube,
	} {
		wantOrder(t, packed(order), hush.OK, 0)
	}
}

func TestP3NotWellOrdered(t *testing.T) {
	for _, order := range []string{
		// No two of these levels are ordered.
		"2", "3", "8", "2 00 11",
		// Two levels are below each other.
		"2 01 10", "3 01 12 20", "3 01 12 21", "4 01 12 23 32", "8 01 12 23 34 45 56 67 70",
		// No join; no meet; neither.
		"3 01 02", "4 01 02 03", "3 02 12", "4 03 13 23", "3 01", "4 01 23",
		// Several levels stand above two, but none is below the others.
		"6 02 03 12 13 24 25 34 35", "6 01 02 13 14 23 24 35 45",
	} {
		wantOrder(t, packed(order), hush.ErrLevels, 0)
	}
}

func TestP3NoOrder(t *testing.T) {
	for _, c := range []struct {
		order string
		place int
	}{
		// The number of levels.
		{"", 0}, {"0", 0}, {"9", 0}, {"a", 0}, {"/", 0}, {":", 0}, {"?", 0}, {"-1", 0},
		{"\x00", 0}, {"\xff", 0}, {"\xb2", 0}, {"\n1", 0}, {" 1", 0}, {"001", 0}, {"901", 0},
		// The first digit of a pair.
		{"22", 1}, {"2a", 1}, {"2 ", 1}, {"2/", 1}, {"2:", 1}, {"2\x00", 1}, {"2\xff", 1},
		{"88", 1}, {"89", 1}, {"11", 1}, {"20120", 3}, {"2 01", 1}, {"201\n", 3}, {"2012", 3},
		// The second digit of a pair.
		{"202", 2}, {"20a", 2}, {"20/", 2}, {"20:", 2}, {"20 ", 2}, {"878", 2}, {"101", 2}, {"20102", 4},
		// It ends too early.
		{"10", 2}, {"20", 2}, {"2010", 4}, {"87", 2}, {"1" + strings.Repeat("0", 63), 64},
		// The first fault is the one that is told, and ahead of ErrLevels.
		{"22x", 1}, {"2x2", 1}, {"201102", 5}, {"201100", 6}, {"2x", 1}, {"30102x", 5},
	} {
		wantOrder(t, c.order, hush.ErrOrder, c.place)
	}
}

func TestP3Long(t *testing.T) {
	wantOrder(t, chain8+strings.Repeat("07", 25), hush.OK, 0)
	wantOrder(t, "1"+strings.Repeat("00", 32), hush.OK, 0)
	wantOrder(t, "2"+strings.Repeat("00", 32), hush.ErrLevels, 0)
	wantOrder(t, "1"+strings.Repeat("00", 31)+"01", hush.ErrOrder, 64)
	for _, order := range []string{
		"1" + strings.Repeat("0", 65), chain8 + strings.Repeat("07", 26),
		"2" + strings.Repeat("0", 66), strings.Repeat("x", 66), strings.Repeat("x", 100000),
	} {
		wantOrder(t, order, hush.ErrLong, 0)
	}
}

func TestP4Join(t *testing.T) {
	for _, c := range []struct {
		order      string
		a, b, join int
	}{
		{"1", 0, 0, 0}, {"2 01", 0, 1, 1}, {"2 01", 1, 0, 1}, {"2 10", 0, 1, 0}, {"2 01", 0, 0, 0},
		{"4 01 02 13 23", 1, 2, 3}, {"4 01 02 13 23", 2, 0, 2}, {"4 31 32 10 20", 1, 2, 0}, {"4 31 32 10 20", 3, 1, 1},
		{"4 23 12 01", 0, 3, 3}, {"5 01 12 24 03 34", 3, 1, 4}, {"5 01 12 24 03 34", 1, 2, 2},
		{cube, 1, 2, 3}, {cube, 1, 6, 7}, {cube, 4, 1, 5}, {cube, 3, 5, 7}, {cube, 2, 6, 6}, {cube, 7, 7, 7},
		{chain8, 7, 0, 7}, {chain8, 3, 4, 4},
	} {
		wantJoin(t, packed(c.order), c.a, c.b, c.join, hush.OK)
	}
}

func TestP4Errors(t *testing.T) {
	for _, no := range []int{-1, 4, 5, 8, 9, 48, -4, math.MaxInt, math.MinInt, 1 << 32} {
		wantJoin(t, diamond, no, 0, 0, hush.ErrRange)
		wantJoin(t, diamond, 3, no, 0, hush.ErrRange)
		wantJoin(t, diamond, no, no, 0, hush.ErrRange)
	}
	wantJoin(t, cube, 8, 7, 0, hush.ErrRange)
	wantJoin(t, "1", 0, 1, 0, hush.ErrRange)
	for _, level := range []int{0, 1, -1, 9} {
		wantJoin(t, "", 0, level, 0, hush.ErrOrder)
		wantJoin(t, "20", level, 1, 0, hush.ErrOrder)
		wantJoin(t, "2", 1, level, 0, hush.ErrLevels)
		wantJoin(t, strings.Repeat("1", 66), level, 0, 0, hush.ErrLong)
	}
}

// model is an order as the document's words have it: below is found by
// following the pairs from each level on its own.
type model struct {
	count int
	below [8][8]bool
}

func modelOf(order string) model {
	m := model{count: int(order[0] - '0')}
	for a := 0; a < m.count; a++ {
		reach(&m, order[1:], a, a)
	}
	return m
}

func reach(m *model, pairs string, from, at int) {
	if m.below[from][at] {
		return
	}
	m.below[from][at] = true
	for i := 0; i < len(pairs); i += 2 {
		if int(pairs[i]-'0') == at {
			reach(m, pairs, from, int(pairs[i+1]-'0'))
		}
	}
}

// bound answers the join of a and b, or with up false their meet, or -1.
func (m *model) bound(a, b int, up bool) int {
	under := func(x, y int) bool {
		if up {
			return m.below[x][y]
		}
		return m.below[y][x]
	}
	found := -1
	for c := 0; c < m.count; c++ {
		if !under(a, c) || !under(b, c) {
			continue
		}
		least := true
		for d := 0; d < m.count; d++ {
			if under(a, d) && under(b, d) && !under(c, d) {
				least = false
			}
		}
		if least {
			found = c
		}
	}
	return found
}

func (m *model) errno() hush.Errno {
	for a := 0; a < m.count; a++ {
		for b := 0; b < m.count; b++ {
			if a != b && m.below[a][b] && m.below[b][a] {
				return hush.ErrLevels
			}
			if m.bound(a, b, true) < 0 || m.bound(a, b, false) < 0 {
				return hush.ErrLevels
			}
		}
	}
	return hush.OK
}

// compare holds Order and every Join against the model; order must be an order.
func compare(t *testing.T, order string) {
	t.Helper()
	m := modelOf(order)
	errno := m.errno()
	wantOrder(t, order, errno, 0)
	for a := 0; a < m.count; a++ {
		for b := 0; b < m.count; b++ {
			if errno == hush.OK {
				wantJoin(t, order, a, b, m.bound(a, b, true), hush.OK)
			} else {
				wantJoin(t, order, a, b, 0, errno)
			}
		}
	}
}

func compareAll(t *testing.T, order string, levels, pairs int) {
	compare(t, order)
	if pairs == 0 {
		return
	}
	for a := 0; a < levels; a++ {
		for b := 0; b < levels; b++ {
			compareAll(t, order+strconv.Itoa(a)+strconv.Itoa(b), levels, pairs-1)
		}
	}
}

func TestP3P4SmallOrders(t *testing.T) {
	compareAll(t, "1", 1, 3)
	compareAll(t, "2", 2, 4)
	compareAll(t, "3", 3, 4)
	compareAll(t, "4", 4, 3)
}

// sets answers at most 8 different sets of 4 things, as bits, with which the
// set of all is one and so is what two of them share: they are well ordered.
func sets(r *rand.Rand) []int {
	family := []int{15}
	for try := 0; try < 12; try++ {
		grown := append([]int{}, family...)
		added := r.Intn(16)
		for _, s := range append([]int{15}, family...) {
			if !holds(grown, s&added) {
				grown = append(grown, s&added)
			}
		}
		if len(grown) <= 8 {
			family = grown
		}
	}
	r.Shuffle(len(family), func(i, j int) { family[i], family[j] = family[j], family[i] })
	return family
}

func holds(list []int, x int) bool {
	for _, y := range list {
		if x == y {
			return true
		}
	}
	return false
}

// smallest answers the place of the set that holds all of s and is within each
// other that does.
func smallest(family []int, s int) int {
	all := 15
	for _, f := range family {
		if f&s == s {
			all &= f
		}
	}
	for i, f := range family {
		if f == all {
			return i
		}
	}
	return -1
}

// pairsOf answers in any order the pairs that are needed, and some others.
func pairsOf(r *rand.Rand, family []int) []string {
	pairs := []string{}
	for a, x := range family {
		for b, y := range family {
			if x == y || x&y != x {
				continue
			}
			needed := true
			for _, z := range family {
				if z != x && z != y && x&z == x && z&y == z {
					needed = false
				}
			}
			if needed || r.Intn(4) == 0 {
				pairs = append(pairs, strconv.Itoa(a)+strconv.Itoa(b))
			}
		}
	}
	r.Shuffle(len(pairs), func(i, j int) { pairs[i], pairs[j] = pairs[j], pairs[i] })
	return pairs
}

func TestP3P4SetsUnderInclusion(t *testing.T) {
	r := rand.New(rand.NewSource(1))
	for round := 0; round < 3000; round++ {
		family := sets(r)
		n := len(family)
		pairs := pairsOf(r, family)
		order := strconv.Itoa(n) + strings.Join(pairs, "")
		wantOrder(t, order, hush.OK, 0)
		for a, x := range family {
			for b, y := range family {
				wantJoin(t, order, a, b, smallest(family, x|y), hush.OK)
			}
		}
		compare(t, order+strconv.Itoa(r.Intn(n))+strconv.Itoa(r.Intn(n)))
		if len(pairs) > 0 {
			compare(t, strconv.Itoa(n)+strings.Join(pairs[1:], ""))
		}
	}
}
