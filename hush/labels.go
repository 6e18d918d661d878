package hush

// labelling is a level for each variable, and for each procedure the levels of
// its context and of its throw.
type labelling struct {
	vars     [maxVars]int
	contexts [maxProcs]int
	throws   [maxProcs]int
}

// flow is a program under a labelling that is on its way up to the lowest one
// of P6. The fault is the one that Check answers.
type flow struct {
	fault   fault
	levels  lattice
	program program
	labels  labelling
	raised  bool
}

func readFlow(order string, text string) flow {
	f := flow{levels: readLevels(order)}
	f.fault = f.levels.fault
	if f.fault.errno != OK {
		return f
	}
	f.program = readProgram(text, f.levels.count)
	f.fault = f.program.fault
	if f.fault.errno == OK {
		f.findLabels()
	}
	return f
}

// findLabels begins at the bottom and raises a label only as far as a demand
// asks for: so no label ever gets higher than in the lowest labelling. It ends,
// since no label can be raised more often than there are levels. The last pass
// raises none, and so its fault is the one under the lowest labelling.
func (f *flow) findLabels() {
	f.beginLabels()
	f.raised = true
	for f.raised {
		f.raised = false
		f.fault = fault{}
		f.demandAll()
	}
}

func (f *flow) beginLabels() {
	for v := 0; v < f.program.vars; v++ {
		f.labels.vars[v] = f.levels.bottom
		if !f.program.isOpen(v) {
			f.labels.vars[v] = f.program.digit(v)
		}
	}
	for d := 0; d < f.program.procs; d++ {
		f.labels.contexts[d] = f.levels.bottom
		f.labels.throws[d] = f.levels.bottom
	}
}

func (f *flow) demandAll() {
	f.demand(f.program.starts[0], f.levels.bottom)
	for d := 0; d < f.program.procs; d++ {
		start := f.program.starts[d+1]
		context := f.labels.contexts[d]
		f.demand(start, context)
		throw := f.throw(start, context)
		f.labels.throws[d] = f.raise(f.labels.throws[d], throw)
	}
}

// raise answers the label, or the join with what it must be above.
func (f *flow) raise(label int, least int) int {
	if f.levels.isBelow(least, label) {
		return label
	}
	f.raised = true
	return f.levels.join(label, least)
}

// demand makes the demands of a statement in a context, in the order in which
// they stand in the text.
func (f *flow) demand(at int, context int) {
	parts := f.program.parts[at]
	switch f.program.text[at] {
	case ',', 't':
		f.demand(parts[0], context)
		behind := f.behind(parts[0], context)
		f.demand(parts[1], behind)
	case '=':
		least := f.under(parts[1], context)
		f.demandVariable(at, parts[0], least)
	case 'i':
		inner := f.under(parts[0], context)
		f.demand(parts[1], inner)
		f.demand(parts[2], inner)
	case 'w':
		inner := f.insideLoop(parts[0], context)
		// In a loop a statement comes behind itself.
		again := f.behind(parts[1], inner)
		f.demand(parts[1], again)
	case 'r':
		level := f.program.digit(parts[0])
		f.demandBelow(at, context, level)
		least := f.levels.join(context, level)
		f.demandVariable(at, parts[1], least)
	case 'o':
		least := f.under(parts[1], context)
		f.demandBelow(at, least, f.program.digit(parts[0]))
	case 'c':
		called := f.program.digit(parts[0])
		f.labels.contexts[called] = f.raise(f.labels.contexts[called], context)
	}
}

func (f *flow) demandVariable(at int, name int, least int) {
	v := f.program.variable(name)
	if f.program.isOpen(v) {
		f.labels.vars[v] = f.raise(f.labels.vars[v], least)
		return
	}
	f.demandBelow(at, least, f.labels.vars[v])
}

func (f *flow) demandBelow(at int, low int, high int) {
	if f.fault.errno == OK && !f.levels.isBelow(low, high) {
		f.fault = fault{errno: ErrFlow, place: at}
	}
}

// throw answers the throw of a statement in a context. It is apart from demand
// and raises nothing: were the two one, each loop would double the work for the
// loops inside it.
func (f *flow) throw(at int, context int) int {
	parts := f.program.parts[at]
	switch f.program.text[at] {
	case ',':
		first := f.throw(parts[0], context)
		second := f.throw(parts[1], f.levels.join(context, first))
		return f.levels.join(first, second)
	case '=', 'o':
		return f.divisionThrow(parts[1], context)
	case 'i':
		inner := f.under(parts[0], context)
		first := f.throw(parts[1], inner)
		second := f.throw(parts[2], inner)
		either := f.levels.join(first, second)
		return f.levels.join(either, f.divisionThrow(parts[0], context))
	case 'w':
		inner := f.insideLoop(parts[0], context)
		body := f.throw(parts[1], inner)
		return f.levels.join(body, f.divisionThrow(parts[0], context))
	case 'r':
		return f.levels.join(context, f.program.digit(parts[0]))
	case 'x':
		return context
	case 't':
		behind := f.behind(parts[0], context)
		return f.throw(parts[1], behind)
	case 'c':
		called := f.program.digit(parts[0])
		return f.levels.join(context, f.labels.throws[called])
	}
	return f.levels.bottom
}

// behind answers the context of what comes behind a statement. That it is come
// to tells whether the statement has thrown.
func (f *flow) behind(at int, context int) int {
	return f.levels.join(context, f.throw(at, context))
}

// under answers the context of what hangs on an expression's value.
func (f *flow) under(expression int, context int) int {
	e := f.expression(expression)
	return f.levels.join(context, e.label)
}

func (f *flow) insideLoop(expression int, context int) int {
	inner := f.under(expression, context)
	return f.levels.join(inner, f.divisionThrow(expression, context))
}

// divisionThrow is the document's D.
func (f *flow) divisionThrow(expression int, context int) int {
	e := f.expression(expression)
	if !e.divides {
		return f.levels.bottom
	}
	return f.levels.join(context, e.divisors)
}

// expressionLabels is what a labelling says of an expression: its label,
// whether it divides, and the label of all that it divides by.
type expressionLabels struct {
	label    int
	divides  bool
	divisors int
}

func (f *flow) expression(at int) expressionLabels {
	e := expressionLabels{label: f.levels.bottom, divisors: f.levels.bottom}
	c := f.program.text[at]
	if f.program.isVariable(c) {
		e.label = f.labels.vars[f.program.variable(at)]
	}
	if !isOperator(c) {
		return e
	}
	parts := f.program.parts[at]
	first := f.expression(parts[0])
	second := f.expression(parts[1])
	e.label = f.levels.join(first.label, second.label)
	e.divides = c == '/' || first.divides || second.divides
	e.divisors = f.levels.join(first.divisors, second.divisors)
	if c == '/' {
		e.divisors = f.levels.join(e.divisors, second.label)
	}
	return e
}

// list answers the labels in the order of P7.
func (f *flow) list() []int {
	list := []int{}
	for v := 0; v < f.program.vars; v++ {
		list = append(list, f.labels.vars[v])
	}
	for d := 0; d < f.program.procs; d++ {
		list = append(list, f.labels.contexts[d])
		list = append(list, f.labels.throws[d])
	}
	return list
}
