package hush_test

import (
	"math/rand"
	"reflect"
	"strings"
	"testing"

	"hush/hush"
)

// A walker runs a program a second time. It goes by the text alone, checks
// nothing, and has Go's panics for throws and for fuel that is spent.
type walker struct {
	text  string
	in    [8][]int
	vars  [256]uint16
	fuel  int
	depth int
	out   []hush.Event
}

type thrown struct{}

type outOfFuel struct{}

func walk(text string, in [][]int, fuel int) ([]hush.Event, int) {
	w := &walker{text: text, fuel: fuel}
	copy(w.in[:], in)
	end := 0
	w.untilSpent(func() {
		if w.threw(func() { w.statement(strings.IndexByte(text, ':') + 1) }) {
			end = 2
		} else {
			end = 1
		}
	})
	return w.out, end
}

func (w *walker) threw(do func()) (threw bool) {
	depth := w.depth
	defer func() {
		switch r := recover(); r {
		case nil:
		case thrown{}:
			w.depth, threw = depth, true
		default:
			panic(r)
		}
	}()
	do()
	return false
}

func (w *walker) untilSpent(do func()) {
	defer func() {
		if r := recover(); r != nil && r != (outOfFuel{}) {
			panic(r)
		}
	}()
	do()
}

func (w *walker) burn() {
	if w.fuel == 0 {
		panic(outOfFuel{})
	}
	w.fuel--
}

// pastExpression answers the place behind the expression at a place.
func (w *walker) pastExpression(at int) int {
	for owed := 1; owed > 0; at++ {
		if strings.IndexByte("+-*/<", w.text[at]) >= 0 {
			owed++
		} else {
			owed--
		}
	}
	return at
}

func (w *walker) pastStatement(at int) int {
	switch w.text[at] {
	case ',', 't':
		return w.pastStatement(w.pastStatement(at + 1))
	case 'i':
		return w.pastStatement(w.pastStatement(w.pastExpression(at + 1)))
	case 'w':
		return w.pastStatement(w.pastExpression(at + 1))
	case '=', 'o':
		return w.pastExpression(at + 2)
	case 'r':
		return at + 3
	case 'c':
		return at + 2
	}
	return at + 1
}

func (w *walker) statement(at int) {
	c := w.text[at]
	if c != 'w' {
		w.burn()
	}
	switch c {
	case ',':
		w.statement(at + 1)
		w.statement(w.pastStatement(at + 1))
	case '=':
		w.vars[w.text[at+1]] = w.expression(at + 2)
	case 'i':
		s := w.pastExpression(at + 1)
		if w.expression(at+1) == 0 {
			s = w.pastStatement(s)
		}
		w.statement(s)
	case 'w':
		for w.burn(); w.expression(at+1) != 0; w.burn() {
			w.statement(w.pastExpression(at + 1))
		}
	case 'r':
		list := &w.in[w.text[at+1]-'0']
		if len(*list) == 0 {
			panic(thrown{})
		}
		w.vars[w.text[at+2]] = uint16((*list)[0])
		*list = (*list)[1:]
	case 'o':
		w.out = append(w.out, hush.Event{Level: int(w.text[at+1] - '0'), Val: int(w.expression(at + 2))})
	case 'x':
		panic(thrown{})
	case 't':
		if w.threw(func() { w.statement(at + 1) }) {
			w.statement(w.pastStatement(at + 1))
		}
	case 'c':
		if w.depth == 8 {
			panic(thrown{})
		}
		w.depth++
		statements := strings.Split(w.text, ";")
		behind := strings.Join(statements[w.text[at+1]-'0'+1:], ";")
		w.statement(len(w.text) - len(behind))
		w.depth--
	}
}

func (w *walker) expression(at int) uint16 {
	c := w.text[at]
	switch {
	case c >= 'a':
		return w.vars[c]
	case c >= '0' && c <= '9':
		return uint16(c - '0')
	}
	first := w.expression(at + 1)
	second := w.expression(w.pastExpression(at + 1))
	switch c {
	case '+':
		return first + second
	case '-':
		return first - second
	case '*':
		return first * second
	case '/':
		if second == 0 {
			panic(thrown{})
		}
		return first / second
	}
	if first < second {
		return 1
	}
	return 0
}

func wantWalked(t *testing.T, order, text string, in [][]int, fuel int) int {
	t.Helper()
	events, end, e := hush.Run(order, text, in, fuel)
	walked, walkedEnd := walk(text, in, fuel)
	if e != hush.OK || end != walkedEnd || said(events) != said(walked) {
		t.Errorf("Run(%q, %q, %v, %d) = %.100q, %d, %d, want %.100q, %d", order, text, in, fuel, said(events), end, e, said(walked), walkedEnd)
	}
	return end
}

// someInput is of small numbers for the most part: what hangs on a number must
// be met often.
func someInput(r *rand.Rand, levels int) [][]int {
	in := [][]int{}
	for len(in) < levels && r.Intn(12) > 0 {
		list := []int{}
		for r.Intn(4) > 0 {
			switch r.Intn(8) {
			case 0:
				list = append(list, int(int32(r.Uint32())))
			case 1:
				list = append(list, 65535-r.Intn(3))
			default:
				list = append(list, r.Intn(4))
			}
		}
		in = append(in, list)
	}
	return in
}

func someFuel(r *rand.Rand) int {
	switch r.Intn(8) {
	case 0:
		return r.Intn(10)
	case 1:
		return r.Intn(1000)
	}
	return r.Intn(80)
}

// Of a single level every program keeps its secrets.
func TestP8P9SecondRun(t *testing.T) {
	r := rand.New(rand.NewSource(6))
	ends := [3]int{}
	rounds := 40000
	for round := 0; round < rounds; round++ {
		w := writer{r, 1, r.Intn(5), r.Intn(5)}
		text := w.program(1 + round%6)
		ends[wantWalked(t, "1", text, someInput(r, 1), someFuel(r))]++
	}
	for end, n := range ends {
		if n < rounds/20 {
			t.Errorf("of %d runs %d end by %d", rounds, n, end)
		}
	}
}

func TestP8P9SecondRunOfLevels(t *testing.T) {
	r := rand.New(rand.NewSource(7))
	for _, order := range []string{chain2, "210", diamond, cube, chain8} {
		levels := int(order[0] - '0')
		for fit := 0; fit < 3000; {
			w := writer{r, levels, r.Intn(9), r.Intn(5)}
			text := w.program(1 + r.Intn(5))
			if e, _ := hush.Check(order, text); e == hush.OK {
				fit++
				wantWalked(t, order, text, someInput(r, levels+1), someFuel(r))
			}
		}
	}
}

func isBeginning(a, b []hush.Event) bool {
	return len(a) <= len(b) && said(a) == said(b[:len(a)])
}

// wantMoreFuel holds the run with each fuel against that with all fuel.
func wantMoreFuel(t *testing.T, order, text string, in [][]int, fuels []int) {
	t.Helper()
	lastEvents, lastEnd, e := hush.Run(order, text, in, plenty)
	if e != hush.OK {
		t.Fatalf("Run(%q, %q, ..): %d", order, text, e)
	}
	// Down from all fuel: a run that ended by 0 has one behind it that is longer.
	for i := len(fuels) - 1; i >= 0; i-- {
		events, end, e := hush.Run(order, text, in, fuels[i])
		same := end == lastEnd && reflect.DeepEqual(events, lastEvents)
		if e != hush.OK || end != 0 && !same || end == 0 && !isBeginning(events, lastEvents) {
			t.Errorf("Run(%q, %q, %v, %d) = %.100q, %d, %d, with more fuel %.100q, %d", order, text, in, fuels[i], said(events), end, e, said(lastEvents), lastEnd)
			return
		}
		lastEvents, lastEnd = events, end
	}
}

func TestP10MoreFuel(t *testing.T) {
	fuels := []int{}
	for n := 0; n < 120; n++ {
		fuels = append(fuels, n)
	}
	fuels = append(fuels, 500, 5000, 9999, plenty)
	for _, text := range []string{
		":.", ":x", ":o01", ":,o01,o02o03", ":,o01,o02x", ":w1o01", "?:w1,=a+a1o0a", "?:w<a9,=a+a1o0a",
		"?:w1tx,=a+a1o0a", ":w1c0;o01", ":c0;,o01c0", "?:w1t,o0a,=a+a1c0o09;,o08c0", "?:tw1,r0ao0a,o09x", ":t,o01xo02", "??:w1,=a+a1,=ba,wb=b-b1o0a",
	} {
		wantMoreFuel(t, "1", text, [][]int{{1, 2, 3, 4, 5}}, fuels)
	}
	r := rand.New(rand.NewSource(8))
	for round := 0; round < 500; round++ {
		w := writer{r, 1, r.Intn(5), r.Intn(5)}
		wantMoreFuel(t, "1", w.program(2+round%5), someInput(r, 1), fuels[:60+4*(round%15)])
	}
}
