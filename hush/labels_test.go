package hush_test

import (
	"reflect"
	"strings"
	"testing"

	"hush/hush"
)

// wantLabels takes a program with blanks that keeps its secrets.
func wantLabels(t *testing.T, order, text string, labels ...int) {
	t.Helper()
	wantCheck(t, order, packed(text), hush.OK, 0)
	l, e := hush.Labels(order, packed(text))
	if e != hush.OK || len(l) != len(labels) || len(l) > 0 && !reflect.DeepEqual(l, labels) {
		t.Errorf("Labels(%q, %q) = %v, %d, want %v", order, text, l, e, labels)
	}
}

// wantFlow takes a program with blanks, and with ! ahead of the statement that
// Check has to name.
func wantFlow(t *testing.T, order, text string) {
	t.Helper()
	marked := packed(text)
	plain := strings.ReplaceAll(marked, "!", "")
	wantCheck(t, order, plain, hush.ErrFlow, strings.IndexByte(marked, '!'))
	if l, e := hush.Labels(order, plain); l != nil || e != hush.ErrFlow {
		t.Errorf("Labels(%q, %q) = %v, %d, want nil, %d", order, plain, l, e, hush.ErrFlow)
	}
}

func TestP6Assignments(t *testing.T) {
	wantLabels(t, chain2, "01: =a0", 0, 1)
	wantLabels(t, chain2, "01: =ba", 0, 1)
	wantLabels(t, chain2, "01: =b+ab", 0, 1)
	wantLabels(t, chain2, "?1: =ab", 1, 1)
	wantLabels(t, chain2, "?1: =a+0b", 1, 1)
	wantLabels(t, chain2, "1?: i a =b0 .", 1, 1)
	wantLabels(t, chain2, "1?: i a . =b0", 1, 1)
	wantLabels(t, chain2, "1?: w a =b0", 1, 1)
	wantLabels(t, chain2, "1???: , =dc , =cb =ba", 1, 1, 1, 1)
	wantLabels(t, diamond, "12?: =c<ab", 1, 2, 3)
	wantLabels(t, diamond, "12?: i a i b =c0 . .", 1, 2, 3)
	wantLabels(t, diamond, "12?: , =ca =cb", 1, 2, 3)
	wantFlow(t, chain2, "01: !=ab")
	wantFlow(t, chain2, "01: !=a-0b")
	wantFlow(t, chain2, "01: !=a-b0")
	wantFlow(t, chain2, "10: i a !=b0 .")
	wantFlow(t, chain2, "10: i a . !=b0")
	wantFlow(t, chain2, "10: w a !=b0")
	wantFlow(t, chain2, "1?0: , =ba !=cb")
	wantFlow(t, diamond, "12: !=ab")
	wantFlow(t, diamond, "121: !=c+ab")
	wantFlow(t, diamond, "12: i a !=b0 .")
}

func TestP6Reads(t *testing.T) {
	wantLabels(t, chain2, "0: r0a", 0)
	wantLabels(t, chain2, "1: r0a", 1)
	wantLabels(t, chain2, "?: r0a", 0)
	wantLabels(t, chain2, "?: r1a", 1)
	wantLabels(t, chain2, "1?: i a r1b .", 1, 1)
	wantLabels(t, diamond, "1?: i a r3b .", 1, 3)
	wantLabels(t, diamond, "??: , t r1a . r2a", 3, 0)
	wantFlow(t, chain2, "0: !r1a")
	wantFlow(t, chain2, "1?: i a !r0b .")
	wantFlow(t, chain2, "11: i a !r0b .")
	wantFlow(t, chain2, "10: i a !r1b .")
	wantFlow(t, chain2, "?: , r1a !r0a")
	wantFlow(t, diamond, "1?: i a !r2b .")
	wantFlow(t, diamond, "1: !r2a")
	// A read throws, if there is no number: what comes behind knows of it.
	wantFlow(t, chain2, "?: , r1a !o00")
	wantFlow(t, chain2, "1?: , i a r1b . !o00")
	wantFlow(t, chain2, "10: , r1a !=b0")
	wantLabels(t, chain2, "??: , r1a =b0", 1, 1)
	wantLabels(t, chain2, "??: , r0a o00", 0, 0)
	wantLabels(t, chain2, "?: , r1a o10", 1)
	wantLabels(t, chain2, "?: , t r1a . o00", 1)
}

func TestP6Puts(t *testing.T) {
	wantLabels(t, chain2, "1: o1a", 1)
	wantLabels(t, chain2, "0: , o0a o1a", 0)
	wantLabels(t, chain2, "1: o1+0a", 1)
	wantLabels(t, chain2, "1: i a o10 o11", 1)
	wantLabels(t, chain2, "1: , o19 o09", 1)
	wantLabels(t, diamond, "12: o3+ab", 1, 2)
	wantFlow(t, chain2, "1: !o0a")
	wantFlow(t, chain2, "1: !o0+0a")
	wantFlow(t, chain2, "1: !o0*a0")
	wantFlow(t, chain2, "1: i a !o00 .")
	wantFlow(t, chain2, "1: i a . !o00")
	wantFlow(t, chain2, "1: i <0a !o00 .")
	wantFlow(t, chain2, "1: w a !o00")
	wantFlow(t, diamond, "12: !o1+ab")
	wantFlow(t, diamond, "12: !o2+ab")
	wantFlow(t, diamond, "1: !o2a")
	wantFlow(t, diamond, "12: i a !o2b .")
	wantFlow(t, diamond, "12: i a i b !o20 . .")
}

func TestP6Calls(t *testing.T) {
	wantLabels(t, chain2, ": c0; .", 0, 0)
	wantLabels(t, chain2, ": c0; x", 0, 0)
	wantLabels(t, chain2, "1: i a c0 .; o10", 1, 1, 0)
	wantLabels(t, chain2, "1: i a c0 .; x", 1, 1, 1)
	wantLabels(t, chain2, "1?: i a c0 .; =b0", 1, 1, 1, 0)
	wantLabels(t, chain2, "1: c0; i a c0 .", 1, 1, 1)
	wantLabels(t, chain2, "1: t i a c0 . .; c1; c2; c3; c0", 1, 1, 1, 1, 1, 1, 1, 1, 1)
	wantLabels(t, chain2, "1: .; c1; c2; c3; i a x .", 1, 0, 1, 0, 1, 0, 1, 0, 1)
	wantLabels(t, chain2, "1: .; .; .; .; i a , c0 , c1 c2 .", 1, 1, 0, 1, 0, 1, 0, 0, 1)
	wantLabels(t, chain2, "1: , c0 o00; .", 1, 0, 0)
	wantLabels(t, chain2, "1: , c0 o00; x", 1, 0, 0)
	wantLabels(t, chain2, "1: , c0 o00; t i a x . .", 1, 0, 0)
	wantLabels(t, chain2, "?: , t c0 . o00; r1a", 1, 0, 1)
	wantLabels(t, chain2, "1: , t i a c0 . . o00; .", 1, 1, 0)
	wantFlow(t, chain2, "1: i a c0 .; !o00")
	wantFlow(t, chain2, "10: i a c0 .; !=b0")
	wantFlow(t, chain2, "1?: i a c0 .; !r0b")
	wantFlow(t, chain2, "1: i a c1 .; o00; !o00")
	wantFlow(t, chain2, "1: i a c1 .; !o00; c0")
	wantFlow(t, chain2, "1: , c0 c1; !o00; i a c0 .")
	wantFlow(t, chain2, "1: .; !o00; i a c0 .")
	// A call may throw as the procedure may, and for its own context.
	wantFlow(t, chain2, "?: , c0 !o00; r1a")
	wantFlow(t, chain2, "1: , c0 !o00; i a x .")
	wantFlow(t, chain2, "1: , c0 !o00; c1; i a x .")
	wantFlow(t, chain2, "1: , i a c0 . !o00; .")
	wantFlow(t, chain2, "1: , i a . c0 !o00; .")
	wantFlow(t, diamond, "1: , i a c0 . !o20; .")
}

func TestP6Sequences(t *testing.T) {
	wantLabels(t, chain2, "1: , i a . . o00", 1)
	wantLabels(t, chain2, "1: , x o00", 1)
	wantLabels(t, chain2, "1?: , i a x . =b0", 1, 1)
	wantLabels(t, chain2, "1: , o00 i a x .", 1)
	wantLabels(t, chain2, "1: , o00 , o00 i a x .", 1)
	wantFlow(t, chain2, "1: , i a x . !o00")
	wantFlow(t, chain2, "1: , , i a x . . !o00")
	wantFlow(t, chain2, "1: , , . i a x . !o00")
	wantFlow(t, chain2, "1: , i a x . , . !o00")
	wantFlow(t, chain2, "1: , i a x . , !o00 .")
	wantFlow(t, chain2, "1: , !o0a .")
	wantFlow(t, chain2, "1: , . !o0a")
	wantFlow(t, chain2, "10: , i a x . !=b0")
	wantFlow(t, chain2, "1?: , i a x . !r0b")
	wantFlow(t, diamond, "12: , i a x . , o10 !o20")
	wantFlow(t, diamond, "12: , i a x . , i b x . , o30 !o10")
	wantFlow(t, diamond, "12: , , i a x . i b x . !o10")
	wantFlow(t, diamond, "12: , , i a x . i b x . !o20")
	// What T throws under the throw of S is the higher for it.
	wantFlow(t, chain2, "1: , t , i a x . . x !o00")
}

func TestP6Conditions(t *testing.T) {
	wantLabels(t, chain2, "1: , i a . . o00", 1)
	wantLabels(t, chain2, "10: i b o00 o01", 1, 0)
	wantLabels(t, chain2, "10: , i b x x o00", 1, 0)
	wantLabels(t, chain2, "1: i 0 o00 o00", 1)
	wantFlow(t, chain2, "1: , i a x . !o00")
	wantFlow(t, chain2, "1: , i a . x !o00")
	wantFlow(t, chain2, "10: , i b i a x . . !o00")
	wantFlow(t, chain2, "10: i a i b !o00 . .")
	wantFlow(t, diamond, "12: , i a x . !o20")
	wantFlow(t, diamond, "12: , i a i b x . . !o10")
	wantFlow(t, diamond, "12: i + a b !o10 .")
}

func TestP6Loops(t *testing.T) {
	wantLabels(t, chain2, "1: w a o10", 1)
	wantLabels(t, chain2, "1: , w a . o00", 1)
	wantLabels(t, chain2, "10: , w b x o00", 1, 0)
	wantLabels(t, chain2, "1: w 1 o00", 1)
	wantLabels(t, chain2, "01: w a , o00 t i b x . .", 0, 1)
	wantLabels(t, chain2, "01: , w a , o00 t i b x . . o00", 0, 1)
	wantLabels(t, chain2, "?1: w a i b x .", 0, 1)
	wantLabels(t, chain2, "?1: w 0 , =a0 i b x .", 1, 1)
	wantLabels(t, diamond, "12?: w a , =c0 i b x .", 1, 2, 3)
	wantFlow(t, chain2, "1: , w a x !o00")
	wantFlow(t, chain2, "01: , w a i b x . !o00")
	// In a loop what comes behind a statement comes ahead of it, too.
	wantFlow(t, chain2, "01: w a , !o00 i b x .")
	wantFlow(t, chain2, "01: w a , !=a1 i b x .")
	wantFlow(t, chain2, "0?: w a , !o00 r1b")
	wantFlow(t, chain2, "01: w a w a , !o00 i b x .")
	wantFlow(t, chain2, "01: w a , !o00 w a i b x .")
	wantFlow(t, chain2, "1: w 1 , c0 i a x .; !o00")
	wantFlow(t, chain2, "1: w 1 , !o00 c0; i a x .")
	wantFlow(t, diamond, "12: w a , o30 , !o10 i b x .")
}

func TestP6Catches(t *testing.T) {
	wantLabels(t, chain2, "1: , t i a x . . o00", 1)
	wantLabels(t, chain2, "1: , t i a x . o10 o00", 1)
	wantLabels(t, chain2, "1: t x o00", 1)
	wantLabels(t, chain2, "1: , t o00 x o00", 1)
	wantLabels(t, chain2, "1: , t t i a x . x . o00", 1)
	wantLabels(t, chain2, "1?: t i a x . =b0", 1, 1)
	wantLabels(t, chain2, "1: , t , i a x . o10 . o00", 1)
	wantFlow(t, chain2, "1: t !o0a .")
	wantFlow(t, chain2, "1: t . !o0a")
	wantFlow(t, chain2, "1: t i a x . !o00")
	wantFlow(t, chain2, "10: t i a x . !=b0")
	wantFlow(t, chain2, "1?: t i a x . !r0b")
	wantFlow(t, chain2, "1: , t i a x . x !o00")
	wantFlow(t, chain2, "1: , t . i a x . !o00")
	wantFlow(t, chain2, "1: t t i a x . x !o00")
	wantFlow(t, chain2, "1: t , i a x . !o00 .")
	wantFlow(t, diamond, "12: , t i a x . i b x . !o10")
	wantFlow(t, diamond, "12: , t i a x . i b x . !o20")
}

func TestP6Divisions(t *testing.T) {
	for _, statement := range []string{"=a E", "o1 E", "i E . .", "w E ."} {
		for _, e := range []string{
			"/1a", "/1+0a", "/1+a0", "//11a", "//1a1", "/1/1a", "/1/a1", "+/1a1", "+1/1a", "*/1a/11", "*/11/1a", "</2a2", "-a/1a", "/aa",
		} {
			wantFlow(t, chain2, "1: , "+strings.Replace(statement, "E", e, 1)+" !o00")
			wantFlow(t, chain2, "1: .; , "+strings.Replace(statement, "E", e, 1)+" !o00")
		}
		for _, e := range []string{"a", "+1a", "-aa", "*a2", "<1a", "/a1", "/11", "/a0", "//a12", "+a/a1", "+/11a", "*a/+112"} {
			wantLabels(t, chain2, "1: , "+strings.Replace(statement, "E", e, 1)+" o00", 1)
		}
		// By a number, too, a division tells its context.
		wantFlow(t, chain2, "1: , i a "+strings.Replace(statement, "E", "/12", 1)+" . !o00")
		wantFlow(t, chain2, "1: , i a "+strings.Replace(statement, "E", "+1/a2", 1)+" . !o00")
		wantLabels(t, chain2, "1: , i a "+strings.Replace(statement, "E", "+12", 1)+" . o00", 1)
	}
	wantFlow(t, diamond, "12: , o3+/1a/1b !o10")
	wantFlow(t, diamond, "12: , o3+/1a/1b !o20")
	wantFlow(t, diamond, "12: , o3//1ab !o10")
	wantFlow(t, diamond, "12: , o3//1ab !o20")
	wantFlow(t, diamond, "12: , o3/a/1b !o10")
	wantLabels(t, diamond, "12: , o3/a/1b o20", 1, 2)
	wantLabels(t, diamond, "12: , o3/ab o20", 1, 2)
	wantLabels(t, diamond, "12: , o3+a/1b o20", 1, 2)
}

func TestP6FirstStatement(t *testing.T) {
	wantFlow(t, chain2, "1: , !o0a o0a")
	wantFlow(t, chain2, "1: , o1a , !o0a o0a")
	wantFlow(t, chain2, "1: !o0a; o0a")
	wantFlow(t, chain2, "1: .; !o0a; o0a")
	wantFlow(t, chain2, "1: .; .; .; !o0a; o0a")
	wantFlow(t, chain2, "01: , i b !=a0 . r1a")
	wantFlow(t, chain2, "1: w a , !o00 , o00 x")
	// What raises a label may stand behind the statement that it spoils.
	wantFlow(t, chain2, "?: , !o0a r1a")
	wantFlow(t, chain2, "?1: , !o0a =ab")
	wantFlow(t, chain2, "??1: , !o0a , =ab =bc")
	wantFlow(t, chain2, "?1: , !o0a o0b; =ab")
	wantFlow(t, chain2, "?: , !o0a c0; r1a")
	wantFlow(t, chain2, "?1: i a !o00 .; =ab")
	wantFlow(t, chain2, "1: , i 0 c0 . , c0 !o00; c1; c2; c3; i a x .")
}

func TestP6InProcedures(t *testing.T) {
	for _, c := range []string{
		"01: P !=ab", "0: P !r1a", "1: P !o0a", "1: P i a !o00 .", "1: P w a !o00", "1: P , i a x . !o00",
		"1: P t i a x . !o00", "1?: P i a !r0b .", "10: P t . !=ba", "01: P w a , !o00 i b x .",
	} {
		for _, head := range []string{"", ".;", ".; .;", "c0; .;", ".; .; .; .;", "t c0 x; x;", "o00; o10;"} {
			wantFlow(t, chain2, strings.Replace(c, "P", head, 1))
		}
	}
	wantLabels(t, chain2, "?: .; r1a", 1, 0, 1)
	wantLabels(t, chain2, "?1: .; =ab; o1a", 1, 1, 0, 0, 0, 0)
	wantLabels(t, chain2, "?: o1a; .; .; .; r1a", 1, 0, 0, 0, 0, 0, 0, 0, 1)
}

// The bottom need not be level 0.
func TestP6OtherBottoms(t *testing.T) {
	wantLabels(t, "210", "?: .; .", 1, 1, 1)
	wantLabels(t, "210", "??: , o10 , =a5 , r1b o1+ab", 1, 1)
	wantLabels(t, "210", "?: r0a", 0)
	wantLabels(t, "210", "0?: i a =b0 .", 0, 0)
	wantLabels(t, "210", "0: , i a . . , =a/a2 o10", 0)
	wantFlow(t, "210", "0: !o1a")
	wantFlow(t, "210", "1: !r0a")
	wantLabels(t, packed("4 31 32 10 20"), "???: , t r1a . , t r2b . =c+ab; x", 1, 2, 0, 3, 3)
	wantLabels(t, packed("3 20 01"), "?: w 1 , o20 t r1a .", 1)
	wantLabels(t, "1", "?0: , r0a , =b/1a , w b o0/ab i a x c0; r0a", 0, 0, 0, 0)
}

func TestP7Lists(t *testing.T) {
	wantLabels(t, chain2, ":.")
	wantLabels(t, chain2, "?: .", 0)
	wantLabels(t, chain2, "01: .", 0, 1)
	wantLabels(t, diamond, "2?13: .", 2, 0, 1, 3)
	wantLabels(t, cube, "76543210: .", 7, 6, 5, 4, 3, 2, 1, 0)
	wantLabels(t, cube, "????????: .; .; .; .; .", make([]int, 16)...)
	wantLabels(t, diamond, "12?: , t c0 . t i b c1 . .; i a x .; i a x .", 1, 2, 0, 0, 1, 2, 3)
	wantLabels(t, cube, "124?: t i a i b i c , =d0 c0 . . . .; x", 1, 2, 4, 7, 7, 7)
	wantLabels(t, cube, "124??: , =d+ab =e*bc", 1, 2, 4, 3, 6)
}

func TestP7Errors(t *testing.T) {
	for _, c := range []struct {
		order, text string
		errno       hush.Errno
	}{
		{strings.Repeat("1", 66), strings.Repeat(":", 301), hush.ErrLong},
		{"20", ":.", hush.ErrOrder}, {"2", ":.", hush.ErrLevels}, {"20110", "x", hush.ErrLevels},
		{chain2, strings.Repeat(":", 301), hush.ErrLong}, {chain2, "", hush.ErrSyntax}, {chain2, "1:,o0a", hush.ErrSyntax},
		{chain2, "1:,o0a,c0.", hush.ErrProc}, {chain2, "1:o0a", hush.ErrFlow}, {chain2, "1:.;o0a", hush.ErrFlow},
	} {
		e, _ := hush.Check(c.order, c.text)
		l, le := hush.Labels(c.order, c.text)
		if e != c.errno || le != c.errno || l != nil {
			t.Errorf("order %q, text %q: Check = %d, Labels = %v, %d, want %d", c.order, c.text, e, l, le, c.errno)
		}
	}
}

func TestP2LabelsAreNew(t *testing.T) {
	text := "1?:,=batiac0..;x"
	first, _ := hush.Labels(chain2, text)
	second, _ := hush.Labels(chain2, text)
	for i := range first {
		first[i] = -1
	}
	third, e := hush.Labels(chain2, text)
	if want := []int{1, 1, 1, 1}; e != hush.OK || !reflect.DeepEqual(second, want) || !reflect.DeepEqual(third, want) {
		t.Errorf("Labels = %v, and %v, %d when asked again; want %v", second, third, e, want)
	}
}

// Were a loop's statement gone over twice for its throw and twice for its
// demands, these would not end.
func TestP1DeepPrograms(t *testing.T) {
	deep := func(head, again, last string) string {
		return head + strings.Repeat(again, (300-len(head)-len(last))/len(again)) + last
	}
	wantLabels(t, chain2, deep(":", "w1", "x"))
	wantLabels(t, chain2, deep("1:", "wa", "x"), 1)
	wantLabels(t, chain2, deep(":", "t.", "x"))
	wantLabels(t, chain2, deep("1:.;", "wa", "c0"), 1, 1, 1)
	wantLabels(t, cube, deep("124?:", "w+*abc", "=d/dd"), 1, 2, 4, 7)
	wantLabels(t, chain8, "01234567:"+strings.Repeat("t", 145)+strings.Repeat(".", 146), 0, 1, 2, 3, 4, 5, 6, 7)
	wantLabels(t, chain8, deep("7???????:", "w1", ",=hg,=gf,=fe,=ed,=dc,=cb=ba"), 7, 7, 7, 7, 7, 7, 7, 7)
	wantLabels(t, chain2, ":o0"+strings.Repeat("/", 148)+strings.Repeat("1", 149))
	wantLabels(t, chain2, "1:o1"+strings.Repeat("/1", 147)+"a", 1)
	wantFlow(t, chain2, deep("1:", "wa", "!o00"))
	wantFlow(t, chain2, deep("01:", "wa", ",!o00ibx."))
}
