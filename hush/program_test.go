package hush_test

import (
	"math/rand"
	"strings"
	"testing"

	"hush/hush"
)

func wantCheck(t *testing.T, order, text string, errno hush.Errno, place int) {
	t.Helper()
	e, at := hush.Check(order, text)
	if e != errno || at != place {
		t.Errorf("Check(%q, %q) = %d, %d, want %d, %d", order, text, e, at, errno, place)
	}
}

// Every program of this test keeps its secrets, so that OK is the answer
// whatever Check finds out about flows.
func TestP5Programs(t *testing.T) {
	for _, text := range []string{
		":.", ":x", ":, . .", ":t . x", ":t x .", ":i 1 . .", ":i 0 x .", ":w 0 .", ":w 1 x",
		":o0 0", ":o0 9", ":o1 9", ":o0 + 1 2", ":o0 / 0 0", ":o0 + 1 * 2 - 3 / 4 < 5 6", ":o0 < - / * + 1 2 3 4 5 6",
		"?:.", "0:.", "1:.", "01?:.", "01??????:.", "????????:.",
		"0:=a0", "?:=aa", "?:=a+a1", "????????:=h+ah", "????????:, =b c =c b",
		"0:r0a", "1:r1a", "?:r0a", "??:, r0a o0a", "?:i a . .", "?:w a .",
		":.;.", ":.;.;.", ":.;.;.;.", ":.;.;.;.;.", "?:r0a;=a1;o0a",
		":c0;.", ":c1;.;.", ":c2;.;.;.", ":c3;.;.;.;.", ":.;c0", ":c0;c1;c0", ":,c0c3;c3;c2;c1;c0",
		// The variable c is no call.
		"???:=cc", "???:=c+cc", "???:wc.", "???:,=c0,r0cicc0c0;.",
	} {
		wantCheck(t, chain2, packed(text), hush.OK, 0)
	}
	wantCheck(t, "1", "0:r0a", hush.OK, 0)
	wantCheck(t, diamond, "3:,r3ao3a", hush.OK, 0)
	wantCheck(t, chain8, "7?:,r7ao7b", hush.OK, 0)
	wantCheck(t, cube, "01234567:.", hush.OK, 0)
}

func TestP5Syntax(t *testing.T) {
	for _, c := range []struct {
		text  string
		place int
	}{
		// The variables: a digit that is no level, too many, no colon.
		{"", 0}, {".", 0}, {";", 0}, {"a:.", 0}, {" :.", 0}, {"/:.", 0}, {"2:.", 0}, {"9:.", 0}, {"02:.", 1},
		{"?", 1}, {"?.", 1}, {"? :.", 1}, {"???????", 7}, {"????????", 8}, {"?????????:.", 8}, {"????????0:.", 8}, {"????????.", 8},
		// No statement.
		{":", 1}, {"::", 1}, {":;", 1}, {":?", 1}, {":0", 1}, {"?:a", 2}, {": .", 1}, {":I0..", 1}, {":+00", 1}, {":\xff", 1}, {":\x00", 1},
		{":,", 2}, {":,.", 3}, {":,;", 2}, {":,.;", 3}, {":,,..", 5}, {":,.0", 3},
		{":=", 2}, {":=0", 2}, {"?:=", 3}, {"?:=0", 3}, {"?:=`0", 3}, {"?:=A0", 3}, {"?:=a", 4}, {"?:=a.", 4}, {"?:=a;", 4},
		{":i", 2}, {":i.", 2}, {":i0", 3}, {":i00", 3}, {":i0;", 3}, {":i0.", 4}, {":i0.;", 4}, {":i0.0", 4},
		{":w", 2}, {":w.", 2}, {":w0", 3}, {":w00", 3}, {":w0;", 3},
		{":r", 2}, {"?:r", 3}, {"?:ra", 3}, {"?:r.", 3}, {"?:r0", 4}, {"?:r00", 4}, {"?:r0.", 4}, {":r0", 3},
		{":o", 2}, {":oa", 2}, {"?:oa", 3}, {":o.", 2}, {":o0", 3}, {":o0.", 3}, {":o0;", 3}, {":o00.", 4},
		{":xx", 2}, {":x0", 2}, {":t", 2}, {":t.", 3}, {":t;", 2}, {":t.;", 3},
		{":c", 2}, {":c.", 2}, {"???:cc", 5}, {":c;", 2},
		// No expression.
		{":o0+", 4}, {":o0+0", 5}, {":o0-0;", 5}, {":o0*.", 4}, {":o0/0.", 5}, {":o0<", 4}, {":o0>00", 3}, {":o0%00", 3}, {":o0=00", 3}, {":o0?", 3}, {":o0 0", 3}, {":o010", 4},
		// Levels and variables and procedures that are not there.
		{"?:r2a", 3}, {"?:r9a", 3}, {":o20", 2}, {":o90", 2}, {":r2", 2}, {":o2", 2},
		{":=a0", 2}, {"?:=b0", 3}, {"?:=ab", 4}, {"?:r0b", 4}, {"?:o0b", 4}, {":o0a", 3}, {":wa.", 2}, {"??:ic..", 4}, {"???????:=h0", 9}, {"????????:=i0", 10}, {"????????:=ai", 11}, {"????????:=zz", 10}, {"????????:=\xe10", 10},
		{":c4", 2}, {":c9", 2}, {":c4;.;.;.;.", 2}, {":c4;.;.;.;.;.", 2},
		// Something stands behind it; too many procedures.
		{":..", 2}, {":.0", 2}, {":.:", 2}, {":. ", 2}, {":.\n", 2}, {":.\x00", 2}, {":.,", 2}, {":.;..", 4}, {":.;.:", 4},
		{":.;", 3}, {":.;;", 3}, {":.;:", 3}, {":.;.;", 5}, {":.;.;.;.;", 9}, {":.;.;.;.;.;", 10}, {":.;.;.;.;.;.", 10}, {":.;.;.;.;..", 10},
		// The first fault is the one that is told, and ahead of ErrProc.
		{"2::", 0}, {":o2b", 2}, {"?:=bb", 3}, {":c0.", 3}, {":c00", 3}, {":,c0", 4}, {":,c0c4", 5}, {":c0;", 4}, {":c3;.;=", 7},
	} {
		wantCheck(t, chain2, c.text, hush.ErrSyntax, c.place)
	}
	wantCheck(t, "1", "1:.", hush.ErrSyntax, 0)
	wantCheck(t, "1", "0:r1a", hush.ErrSyntax, 3)
	wantCheck(t, chain8, "8:.", hush.ErrSyntax, 0)
	wantCheck(t, chain8, "7:r8a", hush.ErrSyntax, 3)
	wantCheck(t, chain8, "7:o8a", hush.ErrSyntax, 3)
}

func TestP5Procedures(t *testing.T) {
	for _, c := range []struct {
		text  string
		place int
	}{
		{":c0", 2}, {":c3", 2}, {":c1;.", 2}, {":c2;.;.", 2}, {":c3;.;.;.", 2},
		{":.;c1", 4}, {":.;.;c3", 6}, {":,c0c1;.", 5}, {":,c1c0;.", 3}, {":,c3c2;.;.", 3}, {":,c2c3;.;.", 3},
		{":c0;c1;c2", 8}, {":t.c2;c1;c0", 4},
		{"???:,=ccc1", 9}, {"???:,=c0c0", 9}, {"???:icc1c0;.", 7},
		{"?:,c0o1a", 4}, {"1:,o0ac0", 7},
	} {
		wantCheck(t, chain2, c.text, hush.ErrProc, c.place)
	}
}

func TestP5Long(t *testing.T) {
	steps := ":" + strings.Repeat(",.", 148)
	sum := ":o0" + strings.Repeat("+", 148) + strings.Repeat("0", 149)
	wantCheck(t, chain2, steps+",..", hush.OK, 0)
	wantCheck(t, chain2, steps+"x;.", hush.OK, 0)
	wantCheck(t, chain2, sum, hush.OK, 0)
	wantCheck(t, chain2, ":"+strings.Repeat("t", 149)+strings.Repeat("x", 149), hush.ErrSyntax, 299)
	wantCheck(t, chain2, ":"+strings.Repeat(",", 299), hush.ErrSyntax, 300)
	wantCheck(t, chain2, steps+",.0", hush.ErrSyntax, 299)
	wantCheck(t, chain2, steps+"c1;", hush.ErrSyntax, 300)
	wantCheck(t, chain2, steps+"c0", hush.ErrProc, 298)
	wantCheck(t, chain2, steps[:295]+"c3;.", hush.ErrProc, 296)
	for _, text := range []string{
		steps + ",...", steps + "x;c0", steps + ",.c0", sum + "0",
		strings.Repeat("x", 301), strings.Repeat("?", 301), strings.Repeat(":", 100000),
	} {
		wantCheck(t, chain2, text, hush.ErrLong, 0)
	}
}

func TestP5OrderErrors(t *testing.T) {
	for _, text := range []string{":.", "", "x", ":c0", strings.Repeat("?", 301)} {
		wantCheck(t, "", text, hush.ErrOrder, 0)
		wantCheck(t, "20", text, hush.ErrOrder, 2)
		wantCheck(t, "20102", text, hush.ErrOrder, 4)
		wantCheck(t, "2", text, hush.ErrLevels, 0)
		wantCheck(t, "20110", text, hush.ErrLevels, 0)
		wantCheck(t, strings.Repeat("1", 66), text, hush.ErrLong, 0)
	}
}

// reader is a second reader of programs, by the document's tables: it goes
// down into the parts of a part, and keeps the first place that is at fault.
type reader struct {
	levels, vars, procs int
	text                string
	at, bad             int
	calls               []int
}

func readAll(text string, levels int) reader {
	r := reader{levels: levels, text: text, bad: -1}
	for r.at < 8 && r.at < len(text) && (text[r.at] == '?' || r.digit(levels)) {
		r.at++
	}
	r.vars = r.at
	r.take(r.is(":"))
	r.statement()
	for r.bad < 0 && r.at < len(text) {
		r.take(r.is(";") && r.procs < 4)
		r.procs++
		r.statement()
	}
	return r
}

func (r *reader) is(set string) bool {
	return r.at < len(r.text) && strings.IndexByte(set, r.text[r.at]) >= 0
}

func (r *reader) digit(limit int) bool { return r.is("0123456789"[:limit]) }

func (r *reader) variable() bool { return r.is("abcdefgh"[:r.vars]) }

func (r *reader) take(ok bool) {
	if r.bad >= 0 {
		return
	}
	if !ok {
		r.bad = r.at
		return
	}
	r.at++
}

func (r *reader) statement() {
	if r.bad >= 0 {
		return
	}
	known := r.is(".,=iwroxtc")
	r.take(known)
	if !known {
		return
	}
	switch r.text[r.at-1] {
	case ',', 't':
		r.statement()
		r.statement()
	case '=':
		r.take(r.variable())
		r.expression()
	case 'i':
		r.expression()
		r.statement()
		r.statement()
	case 'w':
		r.expression()
		r.statement()
	case 'r':
		r.take(r.digit(r.levels))
		r.take(r.variable())
	case 'o':
		r.take(r.digit(r.levels))
		r.expression()
	case 'c':
		r.calls = append(r.calls, r.at)
		r.take(r.digit(4))
	}
}

func (r *reader) expression() {
	if r.bad >= 0 {
		return
	}
	if r.is("+-*/<") {
		r.take(true)
		r.expression()
		r.expression()
		return
	}
	r.take(r.digit(10) || r.variable())
}

// compareText holds Check against the second reader. It leaves open whether
// the flows of a program are in order.
func compareText(t *testing.T, order, text string) {
	t.Helper()
	r := readAll(text, int(order[0]-'0'))
	if r.bad >= 0 {
		wantCheck(t, order, text, hush.ErrSyntax, r.bad)
		return
	}
	for _, at := range r.calls {
		if int(text[at]-'0') >= r.procs {
			wantCheck(t, order, text, hush.ErrProc, at)
			return
		}
	}
	e, at := hush.Check(order, text)
	if e != hush.ErrFlow && (e != hush.OK || at != 0) {
		t.Errorf("Check(%q, %q) = %d, %d, but it is a program", order, text, e, at)
	}
}

func compareTails(t *testing.T, order, text string, more int) {
	compareText(t, order, text)
	if more == 0 {
		return
	}
	for _, c := range ".,=iwroxtc?:;012348abch+-*/< " {
		compareTails(t, order, text+string(c), more-1)
	}
}

func TestP5ShortTexts(t *testing.T) {
	for _, head := range []string{"", ":", "0?:", "????????:", "???:,=c", ":c2;.;", "?:o0", ":.;.;.;."} {
		compareTails(t, chain2, head, 3)
		compareTails(t, chain8, head, 2)
		compareTails(t, "1", head, 2)
	}
}

func TestP5EveryByteAtEveryPlace(t *testing.T) {
	for _, text := range []string{
		"01???:,r0a,=b+ac,ia.x,wb=b-b1,o1/b2tc0c1;.;.",
		"????????:=h<*ahg;r1h;o0e;tx.;w0c3", ":", "?", ":.;.;.;.;.",
	} {
		for at := 0; at <= len(text); at++ {
			compareText(t, chain2, text[:at])
			for c := 0; c < 256; c++ {
				compareText(t, chain2, text[:at]+string([]byte{byte(c)}))
				if at < len(text) {
					compareText(t, chain2, text[:at]+string([]byte{byte(c)})+text[at+1:])
				}
			}
		}
	}
}

// someExpression and someStatement write at random, smaller as depth goes down.
func someExpression(r *rand.Rand, depth int) string {
	if depth <= 0 || r.Intn(2) == 0 {
		return string("0123456789abcabc"[r.Intn(16)])
	}
	first := someExpression(r, depth-1)
	return string("+-*/<"[r.Intn(5)]) + first + someExpression(r, depth-1)
}

func someStatement(r *rand.Rand, depth int) string {
	kind := r.Intn(10)
	if depth <= 0 {
		kind = 4 + r.Intn(6)
	}
	switch kind {
	case 0, 1:
		first := someStatement(r, depth-1)
		return "," + first + someStatement(r, depth-1)
	case 2:
		first := "i" + someExpression(r, 2) + someStatement(r, depth-1)
		return first + someStatement(r, depth-1)
	case 3:
		first := "w" + someExpression(r, 2) + someStatement(r, depth-1)
		return "t" + first + someStatement(r, depth-1)
	case 4:
		return "=" + string("abc"[r.Intn(3)]) + someExpression(r, 3)
	case 5:
		return "r" + string("01"[r.Intn(2)]) + string("abc"[r.Intn(3)])
	case 6:
		return "o" + string("01"[r.Intn(2)]) + someExpression(r, 3)
	case 7:
		return "c" + string("0123"[r.Intn(4)])
	}
	return string(".x"[r.Intn(2)])
}

func someProgram(r *rand.Rand) string {
	text := "0?1:" + someStatement(r, 4)
	for procs := r.Intn(5); procs > 0; procs-- {
		text += ";" + someStatement(r, 2)
	}
	if len(text) > 290 {
		return someProgram(r)
	}
	return text
}

// spoiled changes a byte, takes it out, or lays another ahead of it.
func spoiled(r *rand.Rand, text string) string {
	at := r.Intn(len(text))
	c := string(".,=iwroxtc?:;0123456789abcdefgh+-*/<"[r.Intn(36)])
	switch r.Intn(3) {
	case 0:
		return text[:at] + c + text[at+1:]
	case 1:
		return text[:at] + text[at+1:]
	}
	return text[:at] + c + text[at:]
}

func TestP5ManyPrograms(t *testing.T) {
	r := rand.New(rand.NewSource(2))
	for round := 0; round < 20000; round++ {
		text := someProgram(r)
		compareText(t, chain2, text)
		compareText(t, chain2, spoiled(r, text))
		compareText(t, chain2, spoiled(r, spoiled(r, text)))
		compareText(t, chain2, text[:r.Intn(len(text))])
	}
}

// Each byte is looked at by what stands ahead of it alone.
func TestP5WhatFollowsTheFault(t *testing.T) {
	r := rand.New(rand.NewSource(3))
	for round := 0; round < 5000; round++ {
		text := spoiled(r, someProgram(r))
		e, at := hush.Check(chain2, text)
		if e != hush.ErrSyntax {
			continue
		}
		ahead, aheadAt := hush.Check(chain2, text[:at])
		if ahead == hush.ErrSyntax && aheadAt != at {
			t.Errorf("Check(%q) finds a fault at %d, but at %d if %q follows", text[:at], aheadAt, at, text[at:])
		}
		if at < len(text) {
			wantCheck(t, chain2, text[:at+1], hush.ErrSyntax, at)
			wantCheck(t, chain2, text[:at+1]+":;c0", hush.ErrSyntax, at)
		}
	}
}
