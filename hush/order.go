package hush

const (
	maxLevels = 8
	maxOrder  = 65
	noLevel   = -1
)

// fault is how the reading of a text ended; no fault has the Errno OK.
type fault struct {
	errno Errno
	place int
}

// lattice is what an order says: the levels 0 to count-1, and which of them
// are below which. If there is a fault it has no levels.
type lattice struct {
	fault fault
	count int
	below [maxLevels][maxLevels]bool
}

func readLevels(order string) lattice {
	if len(order) > maxOrder {
		return lattice{fault: fault{errno: ErrLong}}
	}
	l := readPairs(order)
	if l.fault.errno != OK {
		return l
	}
	l.addSteps()
	if !l.wellOrdered() {
		return lattice{fault: fault{errno: ErrLevels}}
	}
	return l
}

func readPairs(order string) lattice {
	count, ok := digitAt(order, 0, maxLevels+1)
	if !ok || count == 0 {
		return noOrder(0)
	}
	l := lattice{count: count}
	for at := 1; at < len(order); at += 2 {
		low, lowOK := digitAt(order, at, count)
		if !lowOK {
			return noOrder(at)
		}
		high, highOK := digitAt(order, at+1, count)
		if !highOK {
			return noOrder(at + 1)
		}
		l.below[low][high] = true
	}
	return l
}

func noOrder(place int) lattice {
	return lattice{fault: fault{errno: ErrOrder, place: place}}
}

// digitAt finds no digit behind the text's end: so a text that ends too early
// is at fault at its length, by the same test as one with a wrong byte.
func digitAt(text string, at int, limit int) (int, bool) {
	if at < 0 || at >= len(text) {
		return 0, false
	}
	if !isDigit(text[at], limit) {
		return 0, false
	}
	return int(text[at] - '0'), true
}

func isDigit(c byte, limit int) bool {
	return c >= '0' && c <= '9' && int(c-'0') < limit
}

// addSteps adds that every level is below itself, and what follows step by
// step. The level between is the outermost loop: only so does a single pass
// find any number of steps.
func (l *lattice) addSteps() {
	for a := 0; a < l.count; a++ {
		l.below[a][a] = true
	}
	for between := 0; between < l.count; between++ {
		for a := 0; a < l.count; a++ {
			for b := 0; b < l.count; b++ {
				if l.below[a][between] && l.below[between][b] {
					l.below[a][b] = true
				}
			}
		}
	}
}

func (l *lattice) wellOrdered() bool {
	if l.hasCircle() || !l.hasJoins() {
		return false
	}
	// A meet is a join of the levels upside down.
	t := l.turned()
	return t.hasJoins()
}

func (l *lattice) hasCircle() bool {
	for a := 0; a < l.count; a++ {
		for b := 0; b < a; b++ {
			if l.below[a][b] && l.below[b][a] {
				return true
			}
		}
	}
	return false
}

func (l *lattice) hasJoins() bool {
	for a := 0; a < l.count; a++ {
		for b := 0; b < a; b++ {
			if l.join(a, b) == noLevel {
				return false
			}
		}
	}
	return true
}

func (l *lattice) turned() lattice {
	t := lattice{count: l.count}
	for a := 0; a < l.count; a++ {
		for b := 0; b < l.count; b++ {
			t.below[b][a] = l.below[a][b]
		}
	}
	return t
}

// join answers noLevel if a and b have no join: so it may be in levels that
// are not well ordered, or if one of the two is no level.
func (l *lattice) join(a int, b int) int {
	for c := 0; c < l.count; c++ {
		if l.isJoin(a, b, c) {
			return c
		}
	}
	return noLevel
}

func (l *lattice) isJoin(a int, b int, c int) bool {
	if !l.bothBelow(a, b, c) {
		return false
	}
	for d := 0; d < l.count; d++ {
		if l.bothBelow(a, b, d) && !l.isBelow(c, d) {
			return false
		}
	}
	return true
}

func (l *lattice) bothBelow(a int, b int, c int) bool {
	return l.isBelow(a, c) && l.isBelow(b, c)
}

func (l *lattice) isBelow(a int, b int) bool {
	return l.has(a) && l.has(b) && l.below[a][b]
}

func (l *lattice) has(level int) bool {
	return level >= 0 && level < l.count
}
