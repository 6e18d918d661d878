package hush_test

import (
	"math/rand"
	"reflect"
	"strconv"
	"strings"
	"testing"

	"hush/hush"
)

// A judge reads the document's table of labels a second time, word for word,
// under a labelling that it is given: it raises nothing.
type judge struct {
	m       model
	joins   [8][8]int
	bottom  int
	text    string
	vars    int
	procs   int
	at      int
	labels  []int
	demands []demanded
}

// demanded is that a level be below another, which is the label at a place of
// the list or, if there is none (-1), one that a labelling cannot change.
type demanded struct {
	low, high   int
	slot, place int
}

func newJudge(order, text string) *judge {
	j := &judge{m: modelOf(order), text: text}
	for a := 0; a < j.m.count; a++ {
		lowest := true
		for b := 0; b < j.m.count; b++ {
			j.joins[a][b] = j.m.bound(a, b, true)
			lowest = lowest && j.m.below[a][b]
		}
		if lowest {
			j.bottom = a
		}
	}
	j.vars = strings.IndexByte(text, ':')
	j.procs = strings.Count(text, ";")
	return j
}

func (j *judge) next() byte {
	j.at++
	return j.text[j.at-1]
}

func (j *judge) join(levels ...int) int {
	joined := j.bottom
	for _, l := range levels {
		joined = j.joins[joined][l]
	}
	return joined
}

// expression answers the label, and the labels of all second parts of a /.
func (j *judge) expression() (int, []int) {
	c := j.next()
	switch {
	case c >= '0' && c <= '9':
		return j.bottom, nil
	case c >= 'a' && c <= 'h':
		return j.labels[c-'a'], nil
	}
	first, before := j.expression()
	second, behind := j.expression()
	divisors := append(before, behind...)
	if c == '/' {
		divisors = append(divisors, second)
	}
	return j.join(first, second), divisors
}

// d is the document's D.
func (j *judge) d(p int, divisors []int) int {
	if len(divisors) == 0 {
		return j.bottom
	}
	return j.join(append(divisors, p)...)
}

func (j *judge) demand(place, low, high, slot int) {
	j.demands = append(j.demands, demanded{low, high, slot, place})
}

func (j *judge) demandVariable(place, low int, v byte) {
	slot := int(v - 'a')
	high := j.labels[slot]
	if j.text[slot] != '?' {
		slot = -1
	}
	j.demand(place, low, high, slot)
}

// statement answers the throw, and notes the demands.
func (j *judge) statement(p int) int {
	place := j.at
	switch j.next() {
	case ',':
		s := j.statement(p)
		return j.join(s, j.statement(j.join(p, s)))
	case '=':
		v := j.next()
		label, divisors := j.expression()
		j.demandVariable(place, j.join(p, label), v)
		return j.d(p, divisors)
	case 'i':
		label, divisors := j.expression()
		s := j.statement(j.join(p, label))
		return j.join(j.d(p, divisors), s, j.statement(j.join(p, label)))
	case 'w':
		label, divisors := j.expression()
		r := j.join(p, label, j.d(p, divisors))
		start, demands := j.at, j.demands
		q := j.statement(r)
		j.at, j.demands = start, demands
		j.statement(j.join(r, q))
		return j.join(j.d(p, divisors), q)
	case 'r':
		d := int(j.next() - '0')
		j.demand(place, p, d, -1)
		j.demandVariable(place, j.join(p, d), j.next())
		return j.join(p, d)
	case 'o':
		d := int(j.next() - '0')
		label, divisors := j.expression()
		j.demand(place, j.join(p, label), d, -1)
		return j.d(p, divisors)
	case 'x':
		return p
	case 't':
		s := j.statement(p)
		return j.statement(j.join(p, s))
	case 'c':
		d := j.vars + 2*int(j.next()-'0')
		j.demand(place, p, j.labels[d], d)
		return j.join(p, j.labels[d+1])
	}
	return j.bottom
}

// judged answers all that a labelling is asked for, and whether it is so.
func (j *judge) judged(labels []int) []demanded {
	j.labels, j.demands, j.at = labels, nil, j.vars+1
	j.statement(j.bottom)
	for d := j.vars; d < len(labels); d += 2 {
		j.at++
		start := j.at
		throw := j.statement(labels[d])
		j.demand(start, throw, labels[d+1], d+1)
	}
	return j.demands
}

// open answers the places of the list that a labelling may choose.
func (j *judge) open() []int {
	open := []int{}
	for i := 0; i < j.vars+2*j.procs; i++ {
		if i >= j.vars || j.text[i] == '?' {
			open = append(open, i)
		}
	}
	return open
}

// begun answers a labelling that has the bottom wherever it may choose.
func (j *judge) begun() []int {
	labels := make([]int, j.vars+2*j.procs)
	for i := 0; i < j.vars; i++ {
		labels[i] = int(j.text[i] - '0')
	}
	for _, i := range j.open() {
		labels[i] = j.bottom
	}
	return labels
}

func (j *judge) allBelow(a, b []int) bool {
	for i := range a {
		if !j.m.below[a[i]][b[i]] {
			return false
		}
	}
	return true
}

// faults answers whether a labelling is one of those that P6 takes, and the
// place of the first demand that it breaks (-1, if there is none).
func (j *judge) faults(labels []int) (taken bool, first int) {
	taken, first = true, -1
	for _, d := range j.judged(labels) {
		if j.m.below[d.low][d.high] {
			continue
		}
		if d.slot >= 0 {
			taken = false
		}
		if first < 0 || d.place < first {
			first = d.place
		}
	}
	return taken, first
}

// wantJudged holds Check and Labels against the lowest labelling.
func wantJudged(t *testing.T, j *judge, order string, lowest []int, first int) {
	t.Helper()
	e, at := hush.Check(order, j.text)
	l, le := hush.Labels(order, j.text)
	if first >= 0 {
		if e != hush.ErrFlow || at != first || le != e || l != nil {
			t.Errorf("order %q, text %q: %d, %d, %v, %d, want ErrFlow at %d", order, j.text, e, at, l, le, first)
		}
		return
	}
	if e != hush.OK || at != 0 || le != e || len(l) != len(lowest) || len(l) > 0 && !reflect.DeepEqual(l, lowest) {
		t.Errorf("order %q, text %q: %d, %d, %v, %d, want the labels %v", order, j.text, e, at, l, le, lowest)
	}
}

// wantLowest tries all labellings. It answers whether one fits.
func wantLowest(t *testing.T, order, text string) bool {
	t.Helper()
	j := newJudge(order, text)
	takes, fits := [][]int{}, [][]int{}
	open := j.open()
	labels := j.begun()
	for _, i := range open {
		labels[i] = 0
	}
	for more := true; more; {
		taken, first := j.faults(labels)
		if taken {
			takes = append(takes, append([]int{}, labels...))
		}
		if first < 0 {
			fits = append(fits, append([]int{}, labels...))
		}
		more = false
		for _, i := range open {
			labels[i]++
			if labels[i] < j.m.count {
				more = true
				break
			}
			labels[i] = 0
		}
	}
	lowest := takes[0]
	for _, l := range takes {
		if j.allBelow(l, lowest) {
			lowest = l
		}
	}
	for _, l := range takes {
		if !j.allBelow(lowest, l) {
			t.Fatalf("order %q, text %q: of the labellings that P6 takes none is the lowest", order, text)
		}
	}
	_, first := j.faults(lowest)
	if (first < 0) != (len(fits) > 0) {
		t.Errorf("order %q, text %q: %d labellings fit, but the lowest breaks %d", order, text, len(fits), first)
	}
	wantJudged(t, j, order, lowest, first)
	return first < 0
}

// wantRaised is for programs with too many labellings to try: it raises from
// the bottom what is broken.
func wantRaised(t *testing.T, order, text string) bool {
	t.Helper()
	j := newJudge(order, text)
	labels := j.begun()
	for raised := true; raised; {
		raised = false
		for _, d := range j.judged(append([]int{}, labels...)) {
			if d.slot >= 0 && !j.m.below[d.low][labels[d.slot]] {
				labels[d.slot] = j.join(labels[d.slot], d.low)
				raised = true
			}
		}
	}
	_, first := j.faults(labels)
	wantJudged(t, j, order, labels, first)
	return first < 0
}

// A writer writes programs at random.
type writer struct {
	r                   *rand.Rand
	levels, vars, procs int
}

func (w *writer) level() string { return strconv.Itoa(w.r.Intn(w.levels)) }

func (w *writer) variable() string { return string(rune('a' + w.r.Intn(w.vars))) }

func (w *writer) expression(depth int) string {
	switch {
	case depth > 0 && w.r.Intn(3) == 0:
		first := w.expression(depth - 1)
		return string("+-*/</"[w.r.Intn(6)]) + first + w.expression(depth-1)
	case w.vars > 0 && w.r.Intn(3) > 0:
		return w.variable()
	}
	return strconv.Itoa(w.r.Intn(3))
}

func (w *writer) statement(depth int) string {
	kind := w.r.Intn(16)
	if depth <= 0 {
		kind %= 8
	}
	switch {
	case kind < 2 && w.vars > 0:
		v := w.variable()
		return "=" + v + w.expression(2)
	case kind == 2 && w.vars > 0:
		d := w.level()
		return "r" + d + w.variable()
	case kind == 3 || kind == 4:
		d := w.level()
		return "o" + d + w.expression(1)
	case kind == 5 && w.procs > 0:
		return "c" + strconv.Itoa(w.r.Intn(w.procs))
	case kind == 6:
		return "x"
	case kind < 8:
		return "."
	case kind < 11:
		first := w.statement(depth - 1)
		return "," + first + w.statement(depth-1)
	case kind == 11:
		e := w.expression(1)
		return "w" + e + w.statement(depth-1)
	case kind < 14:
		e := w.expression(1)
		first := w.statement(depth - 1)
		return "i" + e + first + w.statement(depth-1)
	}
	first := w.statement(depth - 1)
	return "t" + first + w.statement(depth-1)
}

// program writes a program whose main statement has a depth, with levels at
// some of its variables.
func (w *writer) program(depth int) string {
	text := ""
	for v := 0; v < w.vars; v++ {
		if w.r.Intn(2) == 0 {
			text += "?"
		} else {
			text += w.level()
		}
	}
	text += ":" + w.statement(depth)
	for d := 0; d < w.procs; d++ {
		text += ";" + w.statement(depth-1)
	}
	if len(text) > 300 {
		return w.program(depth)
	}
	return text
}

// wantBoth fails if of many programs nearly all or nearly none fit: they would
// prove little.
func wantBoth(t *testing.T, fit, all int) {
	t.Helper()
	if fit < all/10 || fit > all-all/10 {
		t.Errorf("of %d programs %d fit", all, fit)
	}
}

func TestP6P7AllLabellings(t *testing.T) {
	r := rand.New(rand.NewSource(4))
	for _, c := range []struct {
		order       string
		vars, procs int
	}{
		{"201", 3, 2}, {"210", 2, 2}, {"201", 4, 0}, {"201", 2, 4}, {"30112", 3, 1}, {"32110", 2, 1},
		{diamond, 3, 0}, {diamond, 2, 1}, {packed("4 31 32 10 20"), 3, 1}, {packed("5 01 12 24 03 34"), 2, 1},
	} {
		fit, all := 0, 1500
		for round := 0; round < all; round++ {
			w := writer{r, int(c.order[0] - '0'), c.vars, c.procs}
			if wantLowest(t, c.order, w.program(2+round%3)) {
				fit++
			}
		}
		wantBoth(t, fit, all)
	}
}

func TestP6P7GreatPrograms(t *testing.T) {
	r := rand.New(rand.NewSource(5))
	for _, order := range []string{chain2, diamond, chain8, cube, packed("8 76 65 54 43 32 21 10"), packed("8 01 02 03 04 05 06 17 27 37 47 57 67")} {
		fit, all := 0, 4000
		for round := 0; round < all; round++ {
			w := writer{r, int(order[0] - '0'), r.Intn(9), r.Intn(5)}
			if wantRaised(t, order, w.program(1+round%5)) {
				fit++
			}
		}
		wantBoth(t, fit, all)
	}
}
