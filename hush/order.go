package hush

const (
	maxLevels = 8
	maxOrder  = 65
	noLevel   = -1
)

// fault is how the reading of a text ended; no fault has the Errno OK.
type fault struct {
	errno Errno
	place int
}

// lattice is what an order says: the levels 0 to count-1, which of them are
// below which, their joins, and the bottom. If there is a fault it has no
// levels.
type lattice struct {
	fault  fault
	count  int
	below  [maxLevels][maxLevels]bool
	joins  [maxLevels][maxLevels]int
	bottom int
}

func readLevels(order string) lattice {
	if len(order) > maxOrder {
		return lattice{fault: fault{errno: ErrLong}}
	}
	l := readPairs(order)
	if l.fault.errno != OK {
		return l
	}
	l.addSteps()
	if !l.wellOrdered() {
		return lattice{fault: fault{errno: ErrLevels}}
	}
	l.keepJoins()
	l.bottom = l.findBottom()
	return l
}

func readPairs(order string) lattice {
	count, ok := digitAt(order, 0, maxLevels+1)
	if !ok || count == 0 {
		return noOrder(0)
	}
	l := lattice{count: count}
	for at := 1; at < len(order); at += 2 {
		low, lowOK := digitAt(order, at, count)
		if !lowOK {
			return noOrder(at)
		}
		high, highOK := digitAt(order, at+1, count)
		if !highOK {
			return noOrder(at + 1)
		}
		l.below[low][high] = true
	}
	return l
}

func noOrder(place int) lattice {
	return lattice{fault: fault{errno: ErrOrder, place: place}}
}

// digitAt finds no digit behind the text's end: so a text that ends too early
// is at fault at its length, by the same test as one with a wrong byte.
func digitAt(text string, at int, limit int) (int, bool) {
	if at < 0 || at >= len(text) {
		return 0, false
	}
	if !isDigit(text[at], limit) {
		return 0, false
	}
	return int(text[at] - '0'), true
}

func isDigit(c byte, limit int) bool {
	return c >= '0' && c <= '9' && int(c-'0') < limit
}

// addSteps adds that every level is below itself, and what follows step by
// step. The level between is the outermost loop: only so does a single pass
// find any number of steps.
func (l *lattice) addSteps() {
	for a := 0; a < l.count; a++ {
		l.below[a][a] = true
	}
	for between := 0; between < l.count; between++ {
		for a := 0; a < l.count; a++ {
			for b := 0; b < l.count; b++ {
				if l.below[a][between] && l.below[between][b] {
					l.below[a][b] = true
				}
			}
		}
	}
}

func (l *lattice) wellOrdered() bool {
	if l.hasCircle() || !l.hasJoins() {
		return false
	}
	// A meet is a join of the levels upside down.
	t := l.turned()
	return t.hasJoins()
}

func (l *lattice) hasCircle() bool {
	for a := 0; a < l.count; a++ {
		for b := 0; b < a; b++ {
			if l.below[a][b] && l.below[b][a] {
				return true
			}
		}
	}
	return false
}

func (l *lattice) hasJoins() bool {
	for a := 0; a < l.count; a++ {
		for b := 0; b < a; b++ {
			if l.findJoin(a, b) == noLevel {
				return false
			}
		}
	}
	return true
}

func (l *lattice) turned() lattice {
	t := lattice{count: l.count}
	for a := 0; a < l.count; a++ {
		for b := 0; b < l.count; b++ {
			t.below[b][a] = l.below[a][b]
		}
	}
	return t
}

// keepJoins is for speed alone: a labelling asks for joins all the time, and
// to find one takes a look at all pairs of levels.
func (l *lattice) keepJoins() {
	for a := 0; a < l.count; a++ {
		for b := 0; b < l.count; b++ {
			l.joins[a][b] = l.findJoin(a, b)
		}
	}
}

// join answers noLevel if a or b is no level.
func (l *lattice) join(a int, b int) int {
	if !l.has(a) || !l.has(b) {
		return noLevel
	}
	return l.joins[a][b]
}

// findJoin answers noLevel if a and b have no join, as it may be in levels
// that are not well ordered.
func (l *lattice) findJoin(a int, b int) int {
	for c := 0; c < l.count; c++ {
		if l.isJoin(a, b, c) {
			return c
		}
	}
	return noLevel
}

func (l *lattice) isJoin(a int, b int, c int) bool {
	if !l.bothBelow(a, b, c) {
		return false
	}
	for d := 0; d < l.count; d++ {
		if l.bothBelow(a, b, d) && !l.isBelow(c, d) {
			return false
		}
	}
	return true
}

// findBottom needs levels that are well ordered: others need not have one.
func (l *lattice) findBottom() int {
	bottom := 0
	for a := 1; a < l.count; a++ {
		if l.isBelow(a, bottom) {
			bottom = a
		}
	}
	return bottom
}

func (l *lattice) bothBelow(a int, b int, c int) bool {
	return l.isBelow(a, c) && l.isBelow(b, c)
}

func (l *lattice) isBelow(a int, b int) bool {
	return l.has(a) && l.has(b) && l.below[a][b]
}

func (l *lattice) has(level int) bool {
	return level >= 0 && level < l.count
}
