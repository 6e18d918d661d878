package hush

const (
	maxText  = 300
	maxVars  = 8
	maxProcs = 4
)

// The parts of a program behind its variables. Every byte there begins a part,
// and tells alone which parts that part is made of. So a text of these
// letters, for what must still stand, is all that a reader has to remember.
const (
	statementPart  = 's'
	expressionPart = 'e'
	variablePart   = 'v'
	levelPart      = 'l'
	procedurePart  = 'p'
)

// program is what is known of a program's text: how many levels it may name,
// how many variables and procedures it has, and the places of the digits that
// call procedures, which can be judged only when all procedures are counted.
type program struct {
	fault  fault
	levels int
	vars   int
	procs  int
	calls  []int
}

func readProgram(text string, levels int) program {
	if len(text) > maxText {
		return program{fault: fault{errno: ErrLong}}
	}
	p := readParts(text, levels)
	if p.fault.errno != OK {
		return p
	}
	place, missing := p.missingProc(text)
	if missing {
		return program{fault: fault{errno: ErrProc, place: place}}
	}
	return p
}

func readParts(text string, levels int) program {
	p := program{levels: levels, vars: countVars(text, levels)}
	if p.vars >= len(text) || text[p.vars] != ':' {
		return noProgram(p.vars)
	}
	owed := "s"
	for at := p.vars + 1; at < len(text); at++ {
		next, ok := p.readByte(text[at], at, owed)
		if !ok {
			return noProgram(at)
		}
		owed = next
	}
	if owed != "" {
		return noProgram(len(text))
	}
	return p
}

func noProgram(place int) program {
	return program{fault: fault{errno: ErrSyntax, place: place}}
}

func countVars(text string, levels int) int {
	count := 0
	for count < len(text) && count < maxVars {
		if text[count] != '?' && !isDigit(text[count], levels) {
			return count
		}
		count++
	}
	return count
}

// readByte takes what is owed ahead of the byte c and answers what is owed
// behind it; false, if c cannot stand there.
func (p *program) readByte(c byte, at int, owed string) (string, bool) {
	if owed == "" {
		return p.beginProc(c)
	}
	parts, ok := p.partsBehind(c, owed[0])
	if !ok {
		return "", false
	}
	if owed[0] == procedurePart {
		p.calls = append(p.calls, at)
	}
	return parts + owed[1:], true
}

func (p *program) beginProc(c byte) (string, bool) {
	if c != ';' || p.procs >= maxProcs {
		return "", false
	}
	p.procs++
	return "s", true
}

// partsBehind answers the parts that the byte c asks for; false, if c cannot
// begin the part that is owed.
func (p *program) partsBehind(c byte, part byte) (string, bool) {
	switch part {
	case statementPart:
		return statementParts(c)
	case expressionPart:
		return p.expressionParts(c)
	case variablePart:
		return "", p.isVariable(c)
	case levelPart:
		return "", isDigit(c, p.levels)
	case procedurePart:
		return "", isDigit(c, maxProcs)
	}
	return "", false
}

func statementParts(c byte) (string, bool) {
	switch c {
	case '.', 'x':
		return "", true
	case ',', 't':
		return "ss", true
	case '=':
		return "ve", true
	case 'i':
		return "ess", true
	case 'w':
		return "es", true
	case 'r':
		return "lv", true
	case 'o':
		return "le", true
	case 'c':
		return "p", true
	}
	return "", false
}

func (p *program) expressionParts(c byte) (string, bool) {
	switch c {
	case '+', '-', '*', '/', '<':
		return "ee", true
	}
	return "", isDigit(c, 10) || p.isVariable(c)
}

func (p *program) isVariable(c byte) bool {
	return c >= 'a' && int(c-'a') < p.vars
}

// missingProc answers the place of the first call of a procedure that is not
// there; false, if all are there.
func (p *program) missingProc(text string) (int, bool) {
	for i := 0; i < len(p.calls); i++ {
		called, ok := digitAt(text, p.calls[i], maxProcs)
		if !ok || called >= p.procs {
			return p.calls[i], true
		}
	}
	return 0, false
}
