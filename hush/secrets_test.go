package hush_test

import (
	"math/rand"
	"reflect"
	"strconv"
	"testing"

	"hush/hush"
)

// seen answers what is put out below a level.
func seen(m *model, events []hush.Event, level int) []hush.Event {
	low := []hush.Event{}
	for _, e := range events {
		if m.below[e.Level][level] {
			low = append(low, e)
		}
	}
	return low
}

// otherInput answers an input that is the same at each level below the one.
func otherInput(r *rand.Rand, m *model, in [][]int, level int) [][]int {
	other := someInput(r, m.count)
	for len(other) < m.count {
		other = append(other, nil)
	}
	for k := range other {
		if m.below[k][level] {
			other[k] = nil
			if k < len(in) {
				other[k] = in[k]
			}
		}
	}
	return other
}

// wantSecret answers whether the two runs put out the same in all, and whether
// they put out something below the level.
func wantSecret(t *testing.T, order, text string, level int, a, b [][]int, fuelA, fuelB int) (same, some bool) {
	t.Helper()
	m := modelOf(order)
	eventsA, _, eA := hush.Run(order, text, a, fuelA)
	eventsB, _, eB := hush.Run(order, text, b, fuelB)
	if eA != hush.OK || eB != hush.OK {
		t.Errorf("Run(%q, %q, ..): %d, %d", order, text, eA, eB)
	}
	lowA, lowB := seen(&m, eventsA, level), seen(&m, eventsB, level)
	if !isBeginning(lowA, lowB) && !isBeginning(lowB, lowA) {
		t.Errorf("order %q, text %q, below %d: with %v and %d %.100q, with %v and %d %.100q", order, text, level, a, fuelA, said(lowA), b, fuelB, said(lowB))
	}
	return reflect.DeepEqual(eventsA, eventsB), len(lowA) > 0 && len(lowB) > 0
}

// Each program reads at 1, and lets it touch nothing but what is at 1.
func TestP11Kept(t *testing.T) {
	for _, text := range []string{
		"?:, t r1a . , o1a o0 7",
		"??:, t r1a . , i a =b 5 . , o1b o0 7",
		"??:, t r1a . , w a =a -a1 , o1a o0 7",
		"??:, o0 1 , r1a , o1a o1 5",
		"??:, t r1a . , t i a x . . , o1a o0 7",
		"??:, t r1a . , t =b /1a . , o1b o0 7",
		"??:, t r1a . , t c0 . , o1a o0 7 ; i a , =a -a1 c0 .",
		"??:, t r1a . , t r0b . , o0b , i a o1b . o0 +b1",
		"???:, t r1a . , t w a , =a -a1 , r1b =c +cb . , o1c o0 7",
		"??:, t r1a . , =b 3 w b , o0b , i a o1a . =b -b1",
		"?:, t r1a . , c0 , c0 o1a ; o0 5",
		"??:, t , t r1a . t i a x . o1 4 o1 6 , o0 2 , t r0b . o0 b",
	} {
		text = packed(text)
		wantCheck(t, chain2, text, hush.OK, 0)
		secrets := [][]int{nil, {0}, {1}, {2}, {3}, {8}, {9}, {65535}, {1, 1}, {2, 0}, {0, 1, 2}}
		told, low := 0, 0
		for _, a := range secrets {
			for _, b := range secrets {
				for _, fuels := range [][2]int{{60, 60}, {60, 20}, {20, 60}, {8, 14}, {plenty, plenty}, {plenty, 60}} {
					same, some := wantSecret(t, chain2, text, 0, [][]int{{4, 5}, a}, [][]int{{4, 5}, b}, fuels[0], fuels[1])
					if !same {
						told++
					}
					if some {
						low++
					}
				}
			}
		}
		if told == 0 || low == 0 {
			t.Errorf("%q proves nothing: %d runs differ, %d put out below 1", text, told, low)
		}
	}
}

// Each program does tell at 0 what is read at 1, as the walker shows, which
// checks nothing: and so Run must not run it.
func TestP11Told(t *testing.T) {
	for _, c := range []struct {
		text string
		a, b []int
	}{
		{"?:, t r1a . o0a", []int{1}, []int{2}},
		{"??:, t r1a . , =b +a1 o0b", []int{1}, []int{2}},
		{"?:, t r1a . o0 *2a", []int{1}, []int{2}},
		{"??:, t r1a . , i a =b 1 . o0b", []int{1}, []int{0}},
		{"?:, t r1a . i a o0 1 o0 2", []int{1}, []int{0}},
		{"?:, t r1a . w a , o0 1 =a -a1", []int{1}, []int{0}},
		{"??:, t r1a . , w a , =b +b1 =a -a1 o0b", []int{1}, []int{3}},
		// By where a throw comes from.
		{"?:t r1a o0 5", []int{1}, nil},
		{"?:, t r1a . t , i a x . o0 1 o0 2", []int{1}, []int{0}},
		{"?:, t r1a . t , i a . x o0 1 o0 2", []int{1}, []int{0}},
		{"?:, t r1a . t , w a x o0 1 o0 2", []int{1}, []int{0}},
		{"?:, t r1a . t , , i a x . . o0 1 o0 2", []int{1}, []int{0}},
		{"?:, t r1a . t , =a /1a o0 1 o0 2", []int{1}, []int{0}},
		{"?:, t r1a . t , o1 /1a o0 1 o0 2", []int{1}, []int{0}},
		{"?:, t r1a . t , w /1a =a 2 o0 1 o0 2", []int{1}, []int{0}},
		{"?:, t r1a . t , i /1a . . o0 1 o0 2", []int{1}, []int{0}},
		{"?:, t r1a . t i a x . o0 1", []int{1}, []int{0}},
		{"?:, t r1a . t w 1 , i a x . , o0 1 =a 1 o0 2", []int{1}, []int{0}},
		{"??:, t r1a . , t w <b3 , o0 1 , =b +b1 i a x . . o0 2", []int{1}, []int{0}},
		{"?:, t r1a . t , t i a x . x o0 1 o0 2", []int{1}, []int{0}},
		{"?:, t r1a . t , i a =a /10 . o0 1 o0 2", []int{1}, []int{0}},
		{"??:, t r1a . t , o1 +/1ab o0 1 o0 2", []int{1}, []int{0}},
		{"??:, t r1a . t , c0 o0 1 o0 2 ; i a x .", []int{1}, []int{0}},
		// By how deep the calls are.
		{"?:, t r1a . t , c0 o0 1 o0 2 ; i a , =a -a1 c0 .", []int{9}, []int{7}},
		{"?:, t r1a . t , i a c0 . o0 1 o0 2 ; c0", []int{1}, []int{0}},
		{"?:, t r1a . , i a c0 . . ; o0 1", []int{1}, []int{0}},
		// By what is left to read at 0.
		{"??:, t r1a . , i a r0b . , r0b o0b", []int{1}, []int{0}},
		{"???:, t r1a . , i a t r0b . . , t r0c . o0c", []int{1}, []int{0}},
	} {
		text := packed(c.text)
		inA, inB := [][]int{{4, 5}, c.a}, [][]int{{4, 5}, c.b}
		m := modelOf(chain2)
		eventsA, endA := walk(text, inA, 100)
		eventsB, endB := walk(text, inB, 100)
		lowA, lowB := seen(&m, eventsA, 0), seen(&m, eventsB, 0)
		if endA == 0 || endB == 0 || said(lowA) == said(lowB) {
			t.Errorf("%q does not tell: %q, %q", text, said(lowA), said(lowB))
		}
		wantRefused(t, chain2, text, inA, 100, hush.ErrFlow)
		wantRefused(t, chain2, text, inB, 100, hush.ErrFlow)
	}
}

// A teller writes programs that would tell much, if they were let: they read
// all variables first, choose and throw by them, and put all of them out in the
// end, each at the level that Labels answers for it.
type teller struct{ writer }

func (w *teller) expression() string {
	switch w.r.Intn(8) {
	case 0:
		return []string{"0", "1", "/10"}[w.r.Intn(3)]
	case 1:
		return "/1" + w.variable()
	case 2:
		v := w.variable()
		return string("+-*/<"[w.r.Intn(5)]) + v + w.variable()
	case 3:
		v := "/1" + w.variable()
		return string("+-*/<"[w.r.Intn(5)]) + v + w.variable()
	}
	return w.variable()
}

func (w *teller) leaf() string {
	switch w.r.Intn(8) {
	case 0:
		return []string{"x", "i" + w.variable() + "x.", "i" + w.variable() + ".x"}[w.r.Intn(3)]
	case 1:
		return "r" + w.level() + w.variable()
	case 2, 3:
		return "o" + w.level() + w.expression()
	case 4, 5:
		if w.procs > 0 {
			return "c" + strconv.Itoa(w.r.Intn(w.procs))
		}
	}
	return "=" + w.variable() + w.expression()
}

func (w *teller) statement(depth int) string {
	if depth <= 0 {
		return w.leaf()
	}
	first := w.statement(depth - 1 - w.r.Intn(2))
	switch w.r.Intn(8) {
	case 0, 1, 2:
		return "," + first + w.statement(depth-1)
	case 3:
		return "i" + w.expression() + first + "."
	case 4:
		return "i" + w.expression() + first + w.statement(depth-1)
	case 5:
		return "w" + w.expression() + first
	case 6:
		v := w.variable()
		return "w" + v + "," + first + "=" + v + "-" + v + "1"
	}
	return "t" + first + w.statement(depth-1)
}

// program answers false if what it has written does not pass Check.
func (w *teller) program(order string, depth int) (string, bool) {
	head, reads, tells := "", "", ""
	for v := 0; v < w.vars; v++ {
		head += "?"
		reads += ",tr" + w.level() + string(rune('a'+v)) + "."
	}
	body, procs := "t"+w.statement(depth)+".", ""
	for d := 0; d < w.procs; d++ {
		procs += ";" + w.statement(w.r.Intn(3))
	}
	labels, e := hush.Labels(order, head+":"+reads+body+procs)
	if e != hush.OK {
		return "", false
	}
	for v := 0; v < w.vars; v++ {
		tells += ",o" + strconv.Itoa(labels[v]) + string(rune('a'+v))
	}
	// What is left to read tells as well.
	d := w.level()
	last := string(rune('a' + w.vars))
	tells += ",t,r" + d + last + "o" + d + last + "."
	text := head + "?:" + reads + "," + body + tells + "." + procs
	e, _ = hush.Check(order, text)
	return text, e == hush.OK
}

func TestP11SomePrograms(t *testing.T) {
	r := rand.New(rand.NewSource(9))
	for _, order := range []string{chain2, "210", "30112", diamond, packed("4 31 32 10 20"), cube} {
		m := modelOf(order)
		fits, differ, low := 4000, 0, 0
		for fit := 0; fit < fits; {
			w := teller{writer{r, m.count, 1 + r.Intn(3), r.Intn(3)}}
			text, ok := w.program(order, 1+r.Intn(4))
			if !ok {
				continue
			}
			fit++
			level := r.Intn(m.count)
			a := someInput(r, m.count)
			for pair := 0; pair < 4; pair++ {
				b := otherInput(r, &m, a, level)
				fuelA, fuelB := someFuel(r), someFuel(r)
				if pair%2 == 0 {
					fuelA, fuelB = 200, 200
				}
				same, some := wantSecret(t, order, text, level, a, b, fuelA, fuelB)
				if !same {
					differ++
				}
				if some {
					low++
				}
			}
		}
		if differ < fits || low < fits {
			t.Errorf("order %q: of %d programs' runs %d differ, %d put out below the level", order, fits, differ, low)
		}
	}
}
