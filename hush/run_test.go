package hush_test

import (
	"math"
	"reflect"
	"strconv"
	"strings"
	"testing"

	"hush/hush"
)

// said writes events as the tests do: level, colon, number, with blanks between.
func said(events []hush.Event) string {
	words := []string{}
	for _, e := range events {
		words = append(words, strconv.Itoa(e.Level)+":"+strconv.Itoa(e.Val))
	}
	return strings.Join(words, " ")
}

const plenty = 10000

func wantRun(t *testing.T, order, text string, in [][]int, fuel int, out string, end int) {
	t.Helper()
	events, n, e := hush.Run(order, packed(text), in, fuel)
	if e != hush.OK || n != end || said(events) != out {
		t.Errorf("Run(%q, %q, %v, %d) = %.100q, %d, %d, want %q, %d", order, text, in, fuel, said(events), n, e, out, end)
	}
}

func wantRefused(t *testing.T, order, text string, in [][]int, fuel int, errno hush.Errno) {
	t.Helper()
	events, n, e := hush.Run(order, text, in, fuel)
	if e != errno || n != 0 || events != nil {
		t.Errorf("Run(%.70q, %.70q, .., %d) = %v, %d, %d, want the error %d", order, text, fuel, events, n, e, errno)
	}
}

type running struct {
	text string
	in   [][]int
	out  string
	end  int
}

func wantRuns(t *testing.T, order string, table []running) {
	t.Helper()
	for _, c := range table {
		wantRun(t, order, c.text, c.in, plenty, c.out, c.end)
	}
}

func TestP8Errors(t *testing.T) {
	for _, c := range []struct {
		order, text string
		errno       hush.Errno
	}{
		{strings.Repeat("1", 66), ":.", hush.ErrLong}, {"", ":.", hush.ErrOrder}, {"9", ":.", hush.ErrOrder},
		{"2", ":.", hush.ErrLevels}, {"20110", ":.", hush.ErrLevels},
		{"201", ":" + strings.Repeat(",.", 150), hush.ErrLong}, {"201", strings.Repeat("x", 301), hush.ErrLong},
		{"201", "", hush.ErrSyntax}, {"201", ".", hush.ErrSyntax}, {"201", ":", hush.ErrSyntax},
		{"201", ":..", hush.ErrSyntax}, {"201", ":o20", hush.ErrSyntax}, {"201", ":=a1", hush.ErrSyntax},
		{"201", ":c0", hush.ErrProc}, {"201", ":.;c1", hush.ErrProc}, {"201", ":i0c3.;.", hush.ErrProc},
		{"201", "?:,r1ao0a", hush.ErrFlow}, {"201", "01:,r1b=ab", hush.ErrFlow}, {"201", "1:iao01.", hush.ErrFlow},
		// Never begun, and a fault all the same.
		{"201", "1:,xo0a", hush.ErrFlow}, {"201", "1:.;o0a", hush.ErrFlow},
		// Of several errors the one named first.
		{"2", "?", hush.ErrLevels}, {"", strings.Repeat("x", 301), hush.ErrOrder}, {"201", "1:,o0ac0", hush.ErrProc},
	} {
		for _, fuel := range []int{0, 1, plenty, -1, plenty + 1} {
			wantRefused(t, c.order, c.text, nil, fuel, c.errno)
			wantRefused(t, c.order, c.text, [][]int{{1, 2}, {3, 4}}, fuel, c.errno)
		}
	}
}

func TestP8Fuels(t *testing.T) {
	for _, fuel := range []int{-1, -2, 10001, 10002, 20000, 65536, math.MaxInt32, math.MinInt32, math.MaxInt, math.MinInt} {
		wantRefused(t, "201", ":.", nil, fuel, hush.ErrRange)
		wantRefused(t, "1", "?:r0a", [][]int{{1}}, fuel, hush.ErrRange)
	}
	for _, fuel := range []int{1, 2, 9999, 10000} {
		wantRun(t, "201", ":.", nil, fuel, "", 1)
	}
	wantRun(t, "201", ":.", nil, 0, "", 0)
}

func TestP8Statements(t *testing.T) {
	wantRuns(t, "1", []running{
		{": .", nil, "", 1},
		{": x", nil, "", 2},
		{": o0 7", nil, "0:7", 1},
		{": , o0 1 o0 2", nil, "0:1 0:2", 1},
		{": ,, o0 1 o0 2 , o0 3 o0 4", nil, "0:1 0:2 0:3 0:4", 1},
		{"???????? : , , , o0 a o0 b , o0 c o0 d , , o0 e o0 f , o0 g o0 h", nil, "0:0 0:0 0:0 0:0 0:0 0:0 0:0 0:0", 1},
		{"???????? : ,,,,,,, =a1 =b2 =c3 =d4 =e5 =f6 =g7 , =h8 ,,,,,,, o0a o0b o0c o0d o0e o0f o0g o0h", nil, "0:1 0:2 0:3 0:4 0:5 0:6 0:7 0:8", 1},
		{"?? : ,,, =a3 =ba =a4 , o0 a o0 b", nil, "0:4 0:3", 1},
		{"? : , =a +a1 , =a +aa o0 a", nil, "0:2", 1},
		{": i 0 o0 1 o0 2", nil, "0:2", 1},
		{": i 1 o0 1 o0 2", nil, "0:1", 1},
		{": i 9 o0 1 o0 2", nil, "0:1", 1},
		{": i -01 o0 1 o0 2", nil, "0:1", 1},
		{": , i 0 x . o0 3", nil, "0:3", 1},
		{": , i 1 x . o0 3", nil, "", 2},
		{": w 0 o0 1", nil, "", 1},
		{"? : w <a3 , o0 a =a +a1", nil, "0:0 0:1 0:2", 1},
		{"? : , =a 3 , w a , o0 a =a -a1 o0 a", nil, "0:3 0:2 0:1 0:0", 1},
		{"?? : w <a2 , =a +a1 , =b 0 w <b2 , =b +b1 o0 +*9ab", nil, "0:10 0:11 0:19 0:20", 1},
		{": w 1 x", nil, "", 2},
		{": , c0 o0 2 ; o0 1", nil, "0:1 0:2", 1},
		{": ,,, c3 c2 c1 c0 ; o0 0 ; o0 1 ; o0 2 ; o0 3", nil, "0:3 0:2 0:1 0:0", 1},
		{": c0 ; , o0 0 c1 ; , o0 1 c2 ; , o0 2 c3 ; o0 3", nil, "0:0 0:1 0:2 0:3", 1},
		{"? : , =a 4 , c0 o0 a ; =a +a5", nil, "0:9", 1},
		{"? : , =a 3 c0 ; i a ,, o0 a =a -a1 c0 .", nil, "0:3 0:2 0:1", 1},
		{": . ; o0 1 ; x", nil, "", 1},
	})
}

func TestP8Levels(t *testing.T) {
	wantRuns(t, diamond, []running{
		{": ,,, o3 1 o0 2 o2 3 o1 4", nil, "3:1 0:2 2:3 1:4", 1},
		{"???? : ,,,, t r0a . t r1b . t r2c . t r3d . ,,, o0a o1b o2c , o3d o3 +*9*99 +bc", [][]int{{5}, {6}, {7}, {8}}, "0:5 1:6 2:7 3:8 3:742", 1},
		{"??? : ,,, r1a r1b o1 a , r1a ,, o1b o1a , r3c o3c", [][]int{{9}, {1, 2, 3}, {8}, {4}}, "1:1 1:2 1:3 3:4", 1},
	})
	wantRuns(t, packed("4 31 32 10 20"), []running{
		{"?? : ,, r3a o0a , r0b o0b", [][]int{{1}, {2}, {3}, {4}}, "0:4 0:1", 1},
	})
}

func TestP8Operators(t *testing.T) {
	for _, c := range []struct {
		operator      string
		first, second int
		want          string
	}{
		{"+", 0, 0, "0"}, {"+", 3, 4, "7"}, {"+", 65535, 0, "65535"}, {"+", 65534, 1, "65535"}, {"+", 65535, 1, "0"}, {"+", 65535, 65535, "65534"},
		{"-", 0, 0, "0"}, {"-", 7, 3, "4"}, {"-", 3, 7, "65532"}, {"-", 0, 1, "65535"}, {"-", 0, 65535, "1"}, {"-", 65535, 65535, "0"}, {"-", 65535, 0, "65535"},
		{"*", 0, 9, "0"}, {"*", 6, 7, "42"}, {"*", 256, 256, "0"}, {"*", 255, 257, "65535"}, {"*", 256, 257, "256"}, {"*", 65535, 65535, "1"}, {"*", 65535, 2, "65534"}, {"*", 46341, 46341, "4633"}, {"*", 32768, 65535, "32768"},
		{"/", 0, 1, "0"}, {"/", 7, 2, "3"}, {"/", 2, 7, "0"}, {"/", 8, 2, "4"}, {"/", 65535, 1, "65535"}, {"/", 65535, 65535, "1"}, {"/", 65534, 65535, "0"}, {"/", 65535, 2, "32767"}, {"/", 65535, 32768, "1"},
		{"/", 0, 0, ""}, {"/", 1, 0, ""}, {"/", 65535, 0, ""},
		{"<", 0, 0, "0"}, {"<", 0, 1, "1"}, {"<", 1, 0, "0"}, {"<", 1, 1, "0"}, {"<", 65534, 65535, "1"}, {"<", 65535, 65535, "0"}, {"<", 65535, 0, "0"}, {"<", 0, 65535, "1"}, {"<", 32767, 32768, "1"},
	} {
		in := [][]int{{c.first, c.second}}
		out, end := "0:"+c.want, 1
		if c.want == "" {
			out, end = "", 2
		}
		wantRun(t, "1", "?? : ,, r0a r0b o0 "+c.operator+"ab", in, plenty, out, end)
		wantRun(t, "1", "??? : ,, r0a r0b , =c "+c.operator+"ab o0 c", in, plenty, out, end)
	}
}

func TestP8Expressions(t *testing.T) {
	for _, c := range []struct{ expression, want string }{
		{"0", "0"}, {"5", "5"}, {"9", "9"},
		{"- -9 2 3", "4"}, {"- 9 -2 3", "10"}, {"/ /9 2 2", "2"}, {"/ 9 /4 2", "4"}, {"< <1 2 2", "1"}, {"< 2 <1 2", "0"},
		{"+ *2 3 -9 8", "7"}, {"* +2 3 -9 7", "10"}, {"/ -0 1 2", "32767"}, {"- /1 2 1", "65535"}, {"+ -0 1 2", "1"},
		{"< -0 1 1", "0"}, {"* * * *9 9 *9 9 *9 9 *9 9", "55105"},
	} {
		wantRun(t, "1", ": o0 "+c.expression, nil, plenty, "0:"+c.want, 1)
	}
	deep := ":o0" + strings.Repeat("+", 148) + strings.Repeat("9", 149)
	wantRun(t, "1", deep, nil, plenty, "0:1341", 1)
	deep = ":o0" + strings.Repeat("+9", 148) + "9"
	wantRun(t, "1", deep, nil, plenty, "0:1341", 1)
}

// Each place that a throw can come from, alone and within what is around it.
func TestP8Throws(t *testing.T) {
	for _, throws := range []string{
		"x", "r0a", "=a /10", "=a /a0", "=a +1 /00", "=a + /10 1", "=a / /10 1", "=a /1 -11", "=a /0 /12", "=a *0 /10", "o0 /10", "o0 <0 /50",
		"i /10 . .", "w /10 .", "c0", "c1", "c2", "c3", "i1 x .", "i0 . x", "w1 x", ", x .", ", . x", "t x x", "t x , . x",
	} {
		for _, c := range []struct {
			around, out string
			end         int
		}{
			{"S", "", 2}, {", S o0 1", "", 2}, {", o0 1 S", "0:1", 2},
			{"i 1 S o0 1", "", 2}, {"i 0 o0 1 S", "", 2}, {"w 1 S", "", 2}, {"w 1 , S o0 1", "", 2}, {"w 1 , o0 1 S", "0:1", 2},
			{"t S .", "", 1}, {"t S o0 1", "0:1", 1}, {", t S o0 1 o0 2", "0:1 0:2", 1}, {"t , S o0 1 o0 2", "0:2", 1}, {"t , o0 1 S o0 2", "0:1 0:2", 1},
			{"t t S o0 1 o0 2", "0:1", 1}, {"t t S , o0 1 S o0 2", "0:1 0:2", 1}, {"t t S S o0 2", "0:2", 1},
			{"t o0 1 S", "0:1", 1}, {"t x S", "", 2}, {", t x S o0 1", "", 2},
			{"t w 1 S o0 1", "0:1", 1}, {"t i 1 , S o0 1 . o0 2", "0:2", 1}, {", t w 1 , o0 1 S . o0 2", "0:1 0:2", 1},
		} {
			text := "? : " + strings.ReplaceAll(c.around, "S", throws) + " ; x ; c0 ; , c1 o0 9 ; , c3 o0 9"
			wantRun(t, "1", text, nil, plenty, c.out, c.end)
		}
	}
}

// What was done ahead of a throw stays done, and what throws itself does nothing.
func TestP8AtThrows(t *testing.T) {
	wantRuns(t, "1", []running{
		{"? : , t , =a 5 x . o0 a", nil, "0:5", 1},
		{"? : , =a 5 , t =a /10 . o0 a", nil, "0:5", 1},
		{"? : , =a 5 , t r0a . o0 a", nil, "0:5", 1},
		{"? : , =a 5 , t , r0a r0a . o0 a", [][]int{{7}}, "0:7", 1},
		{"?? : , t , r0a x . , r0b ,o0a o0b", [][]int{{7, 8}}, "0:7 0:8", 1},
		{"? : , t c0 . o0 a ; , =a 6 x", nil, "0:6", 1},
		{"? : w <a3 , =a +a1 t x o0 a", nil, "0:1 0:2 0:3", 1},
		{": t t , o0 1 x , o0 2 x o0 3", nil, "0:1 0:2 0:3", 1},
		{"? : t w 1 , o0 a , =a +a1 i <a3 . x o0 9", nil, "0:0 0:1 0:2 0:9", 1},
	})
}

func TestP8Calls(t *testing.T) {
	down := "? : , =a N , t c0 o0 0 o0 a ; i a , =a -a1 c0 o0 1"
	for n := 0; n <= 9; n++ {
		// At n the call goes n+1 deep; the 9th throws.
		out := "0:1 0:0"
		if n >= 8 {
			out = "0:0 0:" + strconv.Itoa(n-8)
		}
		wantRun(t, "1", strings.Replace(down, "N", strconv.Itoa(n), 1), nil, plenty, out, 1)
	}
	wantRuns(t, "1", []running{
		{": c0 ; c0", nil, "", 2},
		{": c0 ; , o0 1 c0", nil, "0:1 0:1 0:1 0:1 0:1 0:1 0:1 0:1", 2},
		{": c0 ; , o0 0 c1 ; , o0 1 c0", nil, "0:0 0:1 0:0 0:1 0:0 0:1 0:0 0:1", 2},
		{": c3 ; , o0 0 c3 ; , o0 1 c0 ; , o0 2 c1 ; , o0 3 c2", nil, "0:3 0:2 0:1 0:0 0:3 0:2 0:1 0:0", 2},
		// A call that has ended, or has thrown, is no longer being made.
		{": w1 c0 ; .", nil, "", 0},
		{"? : , w <a9 , =a +a1 c0 , w <a*29 , =a +a1 c0 o0 a ; .", nil, "0:18", 1},
		{"? : , w <a*29 , =a +a1 t c0 . o0 a ; x", nil, "0:18", 1},
		{"? : ,, t c0 . t c0 . o0 a ; , =a +a1 c0", nil, "0:16", 1},
		// The 9th throws where it is called, and can be met there.
		{"? : , c0 o0 a ; , =a +a1 t c0 o0 a", nil, "0:8 0:8", 1},
		{"? : c0 ; , =a +a1 , t c0 . o0 a", nil, "0:8 0:8 0:8 0:8 0:8 0:8 0:8 0:8", 1},
		{"? : , t c0 o0 9 o0 a ; , =a +a1 , i <a8 c0 . i <a8 . , t c1 , o0 7 x . ; o0 6", nil, "0:7 0:9 0:8", 1},
		// Loops and catches are no calls.
		{": c0 ; c1 ; t t t t t t t t t x x x x x x x x x o0 5", nil, "0:5", 1},
	})
}

func TestP8Inputs(t *testing.T) {
	each := "? : t w 1 , r0a o0a ."
	wantRuns(t, "1", []running{
		{each, nil, "", 1}, {each, [][]int{}, "", 1}, {each, [][]int{nil}, "", 1}, {each, [][]int{{}}, "", 1},
		{each, [][]int{{7}}, "0:7", 1}, {each, [][]int{{1, 2, 3}}, "0:1 0:2 0:3", 1},
		{each, [][]int{{0, 1, 65535, 65536, 65537, 131071, 131072}}, "0:0 0:1 0:65535 0:0 0:1 0:65535 0:0", 1},
		{each, [][]int{{-1, -2, -65535, -65536, -65537, -131072, -131073}}, "0:65535 0:65534 0:1 0:0 0:65535 0:0 0:65535", 1},
		{each, [][]int{{math.MaxInt, math.MinInt, math.MaxInt - 1, math.MinInt + 1, math.MaxInt32, math.MinInt32}}, "0:65535 0:0 0:65534 0:1 0:65535 0:0", 1},
		{"? : r0a", nil, "", 2}, {"? : r0a", [][]int{{}}, "", 2}, {"? : r0a", [][]int{{5}}, "", 1},
		{"? : , r0a r0a", [][]int{{5}}, "", 2}, {"? : , r0a r0a", [][]int{{5, 6}}, "", 1},
		// What lies behind the last level.
		{each, [][]int{{1}, {2}, {3}}, "0:1", 1}, {each, [][]int{{}, {2}, {3}}, "", 1},
		{each, [][]int{{1}, nil, nil, nil, nil, nil, nil, nil, nil, {4}, {5}}, "0:1", 1},
	})
	two := "?? : , , t w 1 , r0a o0a . , t r1b o1 9 t r1b o1 8 o1 b"
	wantRuns(t, "201", []running{
		{two, nil, "1:9 1:8 1:0", 1}, {two, [][]int{{1, 2}}, "0:1 0:2 1:9 1:8 1:0", 1},
		{two, [][]int{nil, {3}}, "1:8 1:3", 1}, {two, [][]int{{}, {3, 4, 5}}, "1:4", 1}, {two, [][]int{{1}, {3, -4}}, "0:1 1:65532", 1},
	})
	wantRuns(t, cube, []running{
		{"? : , r7a o7a", [][]int{{0}, {1}, {2}, {3}, {4}, {5}, {6}, {7}}, "7:7", 1},
		{"? : , r7a o7a", [][]int{{0}, {1}, {2}, {3}, {4}, {5}, {6}}, "", 2},
		{"? : , r7a o7a", [][]int{{0}, {1}, {2}, {3}, {4}, {5}, {6}, {7}, {8}}, "7:7", 1},
		{"? : , r6a o6a", [][]int{{0}, {1}, {2}, {3}, {4}, {5}, {6}}, "6:6", 1},
	})
}

// wantFuel is for a run that ends by 1 or 2 with exactly this fuel.
func wantFuel(t *testing.T, text string, in [][]int, fuel int) {
	t.Helper()
	for n := 0; n <= fuel+2; n++ {
		_, end, e := hush.Run("201", packed(text), in, n)
		if e != hush.OK || (end == 0) != (n < fuel) {
			t.Errorf("Run(.., %q, %v, %d): %d, %d, but it takes %d", text, in, n, end, e, fuel)
		}
	}
}

func TestP9Fuel(t *testing.T) {
	for _, c := range []struct {
		text string
		fuel int
	}{
		{": .", 1}, {": x", 1}, {": , . .", 3}, {": , x .", 2}, {": , . x", 3}, {": , , . . .", 5},
		{"? : =a 1", 1}, {"? : =a +++1111", 1}, {"? : =a /10", 1}, {": o0 1", 1}, {": o1 /10", 1},
		{"? : r1a", 1}, {"? : r0a", 1}, {"? : , r0a r0a", 3}, {"? : , r0a , r0a r0a", 5},
		{": i 1 . .", 2}, {": i 0 . .", 2}, {": i 0 . , . .", 4}, {": i 1 . , . .", 2}, {": i /10 . .", 1},
		{": w 0 .", 1}, {": w /10 .", 1}, {": w 1 x", 2}, {": w 1 , . x", 4},
		{"? : w <a1 =a +a1", 3}, {"? : w <a2 =a +a1", 5}, {"? : w <a9 =a +a1", 19}, {"? : w <a3 , . =a +a1", 13},
		{"? : w /2-2a =a +a1", 5}, {"?? : w <a2 , =b 0 , =a +a1 w <b2 =b +b1", 21},
		{": t . .", 2}, {": t . , . .", 2}, {": t x .", 3}, {": t x x", 3}, {": t t x x .", 5},
		{": c0 ; .", 2}, {": c0 ; x", 2}, {": c0 ; c1 ; .", 3}, {": , c0 c0 ; .", 5}, {": t c0 . ; x", 4},
		// 8 calls and the 9th, which is begun and throws.
		{": c0 ; c0", 9}, {": t c0 . ; c0", 11},
	} {
		wantFuel(t, c.text, [][]int{{1, 2}}, c.fuel)
	}
}

func TestP9Spent(t *testing.T) {
	three := "? : w <a3 , o0 a =a +a1"
	for fuel, out := range []string{
		"", "", "", "0:0", "0:0", "0:0", "0:0", "0:0 0:1", "0:0 0:1", "0:0 0:1", "0:0 0:1", "0:0 0:1 0:2", "0:0 0:1 0:2",
	} {
		wantRun(t, "201", three, nil, fuel, out, 0)
	}
	wantRun(t, "201", three, nil, 13, "0:0 0:1 0:2", 1)
	for fuel, out := range []string{"", "", "0:1", "0:1"} {
		wantRun(t, "201", ": , o0 1 , o0 2 x", nil, fuel, out, 0)
	}
	wantRun(t, "201", ": , o0 1 , o0 2 x", nil, 4, "0:1 0:2", 0)
	wantRun(t, "201", ": , o0 1 , o0 2 x", nil, 5, "0:1 0:2", 2)
	// That fuel is spent is no throw: no t meets it.
	for fuel := 0; fuel <= 50; fuel++ {
		wantRun(t, "201", ": t w 1 . o0 1", nil, fuel, "", 0)
		wantRun(t, "201", ": t t w 1 c0 o0 1 o0 2 ; w 1 .", nil, fuel, "", 0)
	}
	// With all the fuel that there can be.
	for _, text := range []string{": w 1 .", ": w 1 t x .", ": w 1 c0 ; .", ": c0 ; w 1 t c0 .", ": w 1 w 0 ."} {
		wantRun(t, "201", text, nil, plenty, "", 0)
	}
	events, end, e := hush.Run("201", ":w1o17", nil, plenty)
	if len(events) != plenty/2 || end != 0 || e != hush.OK {
		t.Errorf("%d events, %d, %d", len(events), end, e)
	}
	for _, v := range events {
		if v != (hush.Event{Level: 1, Val: 7}) {
			t.Fatalf("put out: %v", v)
		}
	}
}

func TestP1DeepRuns(t *testing.T) {
	for _, text := range []string{
		":" + strings.Repeat(",", 149) + strings.Repeat(".", 150),
		":" + strings.Repeat(",.", 149) + ".",
		":" + strings.Repeat("t", 149) + strings.Repeat("x", 150),
		":" + strings.Repeat("w1", 149) + ".",
		":" + strings.Repeat("i1", 99) + strings.Repeat(".", 100),
		":c0;" + strings.Repeat(",", 146) + "c0" + strings.Repeat(".", 146),
		":c0;" + strings.Repeat("t", 146) + "c0" + strings.Repeat("x", 146),
		":c0;" + strings.Repeat("w1", 146) + "c0",
	} {
		for _, fuel := range []int{0, 1, 100, plenty} {
			if _, end, e := hush.Run("1", text, nil, fuel); e != hush.OK || end < 0 || end > 2 {
				t.Errorf("Run(.., %q, nil, %d): %d, %d", text, fuel, end, e)
			}
		}
	}
}

func TestP2RunLeavesItsInputs(t *testing.T) {
	text := "?? : , t w 1 , r0a o0 +a1 . t w 1 , r1b o1 b ."
	backing := []int{-1, 2, 70000, 4, 5, 6}
	in := [][]int{backing[:3], backing[3:5:5], backing[5:], nil}
	want := "0:0 0:3 0:4465 1:4 1:5"
	first, _, _ := hush.Run("201", packed(text), in, plenty)
	kept := append([]hush.Event{}, first...)
	if said(first) != want {
		t.Errorf("put out %q", said(first))
	}
	again, _, _ := hush.Run("201", packed(text), in, plenty)
	other, _, _ := hush.Run("201", ":,o18o19", in, plenty)
	if !reflect.DeepEqual(first, kept) || said(again) != want || said(other) != "1:8 1:9" {
		t.Errorf("first %v, was %v, again %v, other %v", first, kept, again, other)
	}
	for i := range first {
		first[i] = hush.Event{Level: 9, Val: -9}
	}
	third, _, _ := hush.Run("201", packed(text), in, plenty)
	if said(again) != want || said(third) != want {
		t.Errorf("again %v, third %v", again, third)
	}
	if !reflect.DeepEqual(backing, []int{-1, 2, 70000, 4, 5, 6}) || len(in) != 4 || len(in[0]) != 3 || len(in[1]) != 2 || len(in[2]) != 1 || in[3] != nil {
		t.Errorf("the input was changed: %v, %v", in, backing)
	}
	// A later change of the input does not reach what was answered.
	backing[1] = 8
	if said(third) != want {
		t.Errorf("third %v", third)
	}
}
