package hush

const (
	maxText  = 300
	maxVars  = 8
	maxProcs = 4
)

// The parts of a program behind its variables. Every byte there begins a part,
// and tells alone which parts that part is made of: a text of these letters
// names them.
const (
	statementPart  = 's'
	expressionPart = 'e'
	variablePart   = 'v'
	levelPart      = 'l'
	procedurePart  = 'p'
)

// program is what is known of a program's text: how many levels it may name,
// how many variables and procedures it has, and the places of its statements,
// of which the first is the main one.
type program struct {
	fault  fault
	text   string
	levels int
	vars   int
	procs  int
	starts [1 + maxProcs]int
	// The places of the parts of the part that begins at a place.
	parts [maxText][3]int
	// The places of the digits that call procedures, which can be judged only
	// when all procedures are counted.
	calls []int
}

func readProgram(text string, levels int) program {
	if len(text) > maxText {
		return program{fault: fault{errno: ErrLong}}
	}
	p := program{text: text, levels: levels}
	p.countVars()
	p.readStatements()
	if p.fault.errno == OK {
		p.findMissingProc()
	}
	return p
}

func (p *program) countVars() {
	for p.vars < len(p.text) && p.vars < maxVars {
		c := p.text[p.vars]
		if c != '?' && !isDigit(c, p.levels) {
			return
		}
		p.vars++
	}
}

func (p *program) readStatements() {
	at := p.readMark(':', p.vars)
	p.starts[0] = at
	at = p.readPart(statementPart, at)
	for p.fault.errno == OK && at < len(p.text) {
		if p.procs >= maxProcs {
			p.refuse(at)
			return
		}
		at = p.readMark(';', at)
		p.procs++
		p.starts[p.procs] = at
		at = p.readPart(statementPart, at)
	}
}

func (p *program) readMark(mark byte, at int) int {
	if at >= len(p.text) || p.text[at] != mark {
		p.refuse(at)
	}
	return at + 1
}

// refuse keeps the first fault: what is read behind it is of no account.
func (p *program) refuse(place int) {
	if p.fault.errno == OK {
		p.fault = fault{errno: ErrSyntax, place: place}
	}
}

// readPart reads the part that begins at a place, with the parts that it is
// made of, and answers the place behind it.
func (p *program) readPart(part byte, at int) int {
	if p.fault.errno != OK {
		return at
	}
	if at >= len(p.text) {
		p.refuse(at)
		return at
	}
	inner, ok := p.partsBehind(p.text[at], part)
	if !ok {
		p.refuse(at)
		return at
	}
	if part == procedurePart {
		p.calls = append(p.calls, at)
	}
	next := at + 1
	for i := 0; i < len(inner); i++ {
		p.parts[at][i] = next
		next = p.readPart(inner[i], next)
	}
	return next
}

// partsBehind answers the parts that the byte c asks for; false, if c cannot
// begin the part that is owed.
func (p *program) partsBehind(c byte, part byte) (string, bool) {
	switch part {
	case statementPart:
		return statementParts(c)
	case expressionPart:
		return p.expressionParts(c)
	case variablePart:
		return "", p.isVariable(c)
	case levelPart:
		return "", isDigit(c, p.levels)
	case procedurePart:
		return "", isDigit(c, maxProcs)
	}
	return "", false
}

func statementParts(c byte) (string, bool) {
	switch c {
	case '.', 'x':
		return "", true
	case ',', 't':
		return "ss", true
	case '=':
		return "ve", true
	case 'i':
		return "ess", true
	case 'w':
		return "es", true
	case 'r':
		return "lv", true
	case 'o':
		return "le", true
	case 'c':
		return "p", true
	}
	return "", false
}

func (p *program) expressionParts(c byte) (string, bool) {
	if isOperator(c) {
		return "ee", true
	}
	return "", isDigit(c, 10) || p.isVariable(c)
}

func isOperator(c byte) bool {
	return c == '+' || c == '-' || c == '*' || c == '/' || c == '<'
}

func (p *program) isVariable(c byte) bool {
	return c >= 'a' && int(c-'a') < p.vars
}

func (p *program) findMissingProc() {
	for i := 0; i < len(p.calls); i++ {
		if p.digit(p.calls[i]) >= p.procs {
			p.fault = fault{errno: ErrProc, place: p.calls[i]}
			return
		}
	}
}

// digit answers the number, level or procedure at a place where the reader has
// found one.
func (p *program) digit(at int) int {
	return int(p.text[at] - '0')
}

// variable answers the number of the variable at a place where the reader has
// found one.
func (p *program) variable(at int) int {
	return int(p.text[at] - 'a')
}

// isOpen tells whether the level of a variable is to be worked out. The
// variables' levels are the text's first bytes.
func (p *program) isOpen(variable int) bool {
	return p.text[variable] == '?'
}
