// Package hush: programs that keep secrets: see DOC.md.
package hush

// Errno is what a call answers: OK or the reason for a refusal.
type Errno int

const (
	OK        Errno = 0
	ErrLong   Errno = 1 // a text above its bound
	ErrOrder  Errno = 2 // no order
	ErrLevels Errno = 3 // levels that are not well ordered
	ErrSyntax Errno = 4 // no program
	ErrProc   Errno = 5 // a procedure that is not there
	ErrFlow   Errno = 6 // a secret might be told
	ErrRange  Errno = 7 // a number out of its range
)

// Event is a number that was put out, and its level.
type Event struct{ Level, Val int }

// Order tells whether a text is an order of levels (P3).
func Order(order string) (Errno, int) {
	l := readLevels(order)
	return l.fault.errno, l.fault.place
}

// Join answers the join of two levels (P4).
func Join(order string, a int, b int) (int, Errno) {
	l := readLevels(order)
	if l.fault.errno != OK {
		return 0, l.fault.errno
	}
	if !l.has(a) || !l.has(b) {
		return 0, ErrRange
	}
	return l.join(a, b), OK
}

// Check tells whether a program keeps its secrets (P5 to P7).
func Check(order string, text string) (Errno, int) {
	f := readFlow(order, text)
	return f.fault.errno, f.fault.place
}

// Labels answers the lowest labelling (P7).
func Labels(order string, text string) ([]int, Errno) {
	f := readFlow(order, text)
	if f.fault.errno != OK {
		return nil, f.fault.errno
	}
	return f.list(), OK
}

// Run runs a program that keeps its secrets (P8 to P11).
func Run(order string, text string, in [][]int, fuel int) ([]Event, int, Errno) {
	f := readFlow(order, text)
	if f.fault.errno != OK {
		return nil, 0, f.fault.errno
	}
	if fuel < 0 || fuel > maxFuel {
		return nil, 0, ErrRange
	}
	r := beginRun(f.program, in, fuel)
	end := r.whole()
	return r.out, int(end), OK
}
