package hush

const (
	maxCalls = 8
	maxFuel  = 10000
	// Numbers are from 0 to one less than this.
	numbers = 65536
)

// ending is how a statement ended, and with the main one the run.
type ending int

const (
	spent ending = 0 // there was no fuel left to go on
	ended ending = 1
	threw ending = 2
)

// run is a program at work.
type run struct {
	program program
	in      [][]int
	// How many numbers of each level's input have been read.
	read [maxLevels]int
	vars [maxVars]int
	fuel int
	// How many calls are being made.
	calls int
	out   []Event
}

func beginRun(p program, in [][]int, fuel int) run {
	return run{program: p, in: in, fuel: fuel, out: []Event{}}
}

// whole answers the ending of the main statement.
func (r *run) whole() ending {
	return r.statement(r.program.starts[0])
}

// takeFuel answers false if there is none to take.
func (r *run) takeFuel() bool {
	if r.fuel <= 0 {
		return false
	}
	r.fuel--
	return true
}

// statement ends, whatever loops and calls there are, since each statement that
// it begins takes fuel.
func (r *run) statement(at int) ending {
	if !r.takeFuel() {
		return spent
	}
	parts := r.program.parts[at]
	switch r.program.text[at] {
	case ',':
		return r.both(parts[0], parts[1])
	case '=':
		return r.set(parts[0], parts[1])
	case 'i':
		return r.choose(parts[0], parts[1], parts[2])
	case 'w':
		return r.loop(parts[0], parts[1])
	case 'r':
		return r.readNext(parts[0], parts[1])
	case 'o':
		return r.putOut(parts[0], parts[1])
	case 'x':
		return threw
	case 't':
		return r.attempt(parts[0], parts[1])
	case 'c':
		return r.call(parts[0])
	}
	return ended
}

func (r *run) both(first int, second int) ending {
	end := r.statement(first)
	if end != ended {
		return end
	}
	return r.statement(second)
}

func (r *run) set(name int, expression int) ending {
	value, ok := r.value(expression)
	if !ok {
		return threw
	}
	v := r.program.variable(name)
	r.vars[v] = value
	return ended
}

func (r *run) choose(expression int, first int, second int) ending {
	value, ok := r.value(expression)
	if !ok {
		return threw
	}
	if value != 0 {
		return r.statement(first)
	}
	return r.statement(second)
}

// loop takes fuel for each round but the first, for which it was taken when the
// statement was begun.
func (r *run) loop(expression int, body int) ending {
	for {
		value, ok := r.value(expression)
		if !ok {
			return threw
		}
		if value == 0 {
			return ended
		}
		end := r.statement(body)
		if end != ended {
			return end
		}
		if !r.takeFuel() {
			return spent
		}
	}
}

func (r *run) readNext(levelPlace int, name int) ending {
	level := r.program.digit(levelPlace)
	if level >= len(r.in) || r.read[level] >= len(r.in[level]) {
		return threw
	}
	v := r.program.variable(name)
	r.vars[v] = modulo(r.in[level][r.read[level]])
	r.read[level]++
	return ended
}

func (r *run) putOut(levelPlace int, expression int) ending {
	value, ok := r.value(expression)
	if !ok {
		return threw
	}
	level := r.program.digit(levelPlace)
	r.out = append(r.out, Event{Level: level, Val: value})
	return ended
}

func (r *run) attempt(first int, second int) ending {
	end := r.statement(first)
	if end != threw {
		return end
	}
	return r.statement(second)
}

func (r *run) call(procedurePlace int) ending {
	if r.calls >= maxCalls {
		return threw
	}
	called := r.program.digit(procedurePlace)
	r.calls++
	end := r.statement(r.program.starts[called+1])
	r.calls--
	return end
}

// value answers false if the expression throws.
func (r *run) value(at int) (int, bool) {
	c := r.program.text[at]
	if r.program.isVariable(c) {
		return r.vars[r.program.variable(at)], true
	}
	if !isOperator(c) {
		return r.program.digit(at), true
	}
	parts := r.program.parts[at]
	first, firstOK := r.value(parts[0])
	if !firstOK {
		return 0, false
	}
	second, secondOK := r.value(parts[1])
	if !secondOK {
		return 0, false
	}
	return operate(c, first, second)
}

func operate(operator byte, first int, second int) (int, bool) {
	switch operator {
	case '+':
		return modulo(first + second), true
	case '-':
		return modulo(first - second), true
	case '*':
		// Where an int has 32 bits this may be cut to them, which leaves it the
		// same modulo any lower power of 2.
		return modulo(first * second), true
	case '/':
		if second == 0 {
			return 0, false
		}
		return first / second, true
	}
	if first < second {
		return 1, true
	}
	return 0, true
}

// modulo answers a number from 0 on for a number below 0 as well.
func modulo(n int) int {
	return (n%numbers + numbers) % numbers
}
