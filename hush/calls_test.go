package hush_test

import (
	"math"
	"reflect"
	"strings"
	"testing"

	"hush/hush"
)

var oddOrders = []string{
	"", "0", "1", "2", "9", "x", "\xff", "20", "201", "202", "20110", "30102", "\x00\x00\x00",
	"8", diamond, chain8, cube, cube + "0", strings.Repeat("8", 65), strings.Repeat("8", 66),
	"8" + strings.Repeat("70", 32), "8" + strings.Repeat("07", 40), strings.Repeat("1", 1<<16), "２０１",
}

var oddTexts = []string{
	"", ":", ":.", "?", "?:", "::", ";", "????????:=h/hh", "?????????", ":c0", ":c9", ":w1.", ":w1c0;c0", ":c0;c0",
	"?:wa=a+a1", ":o0/00", "\xff\xfe", ":\x00", "é:.", "0:r0a", "1?:,r1ao0a",
	":" + strings.Repeat(",", 299), ":" + strings.Repeat("t", 149) + strings.Repeat("x", 150),
	":o0" + strings.Repeat("+", 148) + strings.Repeat("0", 149), strings.Repeat("?", 300), strings.Repeat(",", 1<<16),
}

var oddNumbers = []int{0, 1, 7, 8, -1, 9, 63, 64, 10000, 10001, math.MaxInt, math.MinInt}

func wantPlace(t *testing.T, call string, e hush.Errno, place, length int) {
	t.Helper()
	placed := e == hush.ErrOrder || e == hush.ErrSyntax || e == hush.ErrProc || e == hush.ErrFlow
	if e < hush.OK || e > hush.ErrRange || place < 0 || place > length || !placed && place != 0 {
		t.Errorf("%s: %d, %d", call, e, place)
	}
}

func TestP1OrderAndJoin(t *testing.T) {
	for _, order := range oddOrders {
		e, place := hush.Order(order)
		wantPlace(t, "Order", e, place, len(order))
		for _, a := range oddNumbers {
			for _, b := range oddNumbers {
				j, je := hush.Join(order, a, b)
				if je != e && (e != hush.OK || je != hush.ErrRange) {
					t.Errorf("Join(%.70q, %d, %d): the error is %d, but of Order %d", order, a, b, je, e)
				}
				if je != hush.OK && j != 0 {
					t.Errorf("Join(%.70q, %d, %d) = %d with the error %d", order, a, b, j, je)
				}
			}
		}
	}
}

func TestP1Programs(t *testing.T) {
	inputs := [][][]int{nil, {}, {nil, nil}, {{1, -1}, {65536}}, make([][]int, 20)}
	for _, order := range oddOrders {
		for _, text := range oddTexts {
			e, place := hush.Check(order, text)
			wantPlace(t, "Check", e, place, max(len(order), len(text)))
			labels, le := hush.Labels(order, text)
			if le != e || (le != hush.OK) != (labels == nil) {
				t.Errorf("Labels(%.70q, %.70q) = %v with the error %d, and of Check %d", order, text, labels, le, e)
			}
			for i, fuel := range oddNumbers {
				out, end, re := hush.Run(order, text, inputs[i%len(inputs)], fuel)
				want := e
				if e == hush.OK && (fuel < 0 || fuel > plenty) {
					want = hush.ErrRange
				}
				if re != want || re != hush.OK && (out != nil || end != 0) || end < 0 || end > 2 {
					t.Errorf("Run(%.70q, %.70q, .., %d) = %v, %d with the error %d", order, text, fuel, out, end, re)
				}
			}
		}
	}
}

// answers is all that the calls answer at one order and one text.
type answers struct {
	order, check, join, labels, run hush.Errno
	orderAt, checkAt, joined, ended int
	levels                          []int
	events                          []hush.Event
}

func ask(order, text string, in [][]int) answers {
	a := answers{}
	a.order, a.orderAt = hush.Order(order)
	a.joined, a.join = hush.Join(order, 0, 1)
	a.check, a.checkAt = hush.Check(order, text)
	a.levels, a.labels = hush.Labels(order, text)
	a.events, a.ended, a.run = hush.Run(order, text, in, 100)
	return a
}

func TestP2SameAnswers(t *testing.T) {
	in := [][]int{{1, -2, 70000}, {3}}
	first := []answers{}
	for _, order := range oddOrders {
		for _, text := range oddTexts {
			first = append(first, ask(order, text, in))
		}
	}
	// Asked again the other way round, each call comes behind other ones.
	for i := len(oddOrders) - 1; i >= 0; i-- {
		for j := len(oddTexts) - 1; j >= 0; j-- {
			again := ask(oddOrders[i], oddTexts[j], in)
			if was := first[i*len(oddTexts)+j]; !reflect.DeepEqual(was, again) {
				t.Errorf("order %.70q, text %.70q: %v, then %v", oddOrders[i], oddTexts[j], was, again)
			}
		}
	}
	if !reflect.DeepEqual(in, [][]int{{1, -2, 70000}, {3}}) {
		t.Errorf("the input was changed: %v", in)
	}
}

func TestP1ErrorNumbers(t *testing.T) {
	for i, e := range []hush.Errno{
		hush.OK, hush.ErrLong, hush.ErrOrder, hush.ErrLevels,
		hush.ErrSyntax, hush.ErrProc, hush.ErrFlow, hush.ErrRange,
	} {
		if int(e) != i {
			t.Errorf("the error number %d is %d", i, e)
		}
	}
}
