package tests

import (
	"maps"
	"math"
	"reflect"
	"slices"
	"testing"

	"loop.example/g01989/impl"
)

// equalRuns holds nil and empty lists for equal.
func equalRuns(a, b impl.Run) bool {
	sameLogs := slices.EqualFunc(a.Log, b.Log, equalAccesses)
	return sameLogs && equalTuples(a.Answers, b.Answers) && equalFacts(a.Got, b.Got) && a.Cost == b.Cost
}

func equalAccesses(a, b impl.Access) bool {
	return a.Method == b.Method && slices.Equal(a.Values, b.Values)
}

func isZeroRun(r impl.Run) bool {
	return equalRuns(r, impl.Run{})
}

// respondByHand tells without the program what a source chooses: each fact that is near enough behind the first one chosen.
func respondByHand(m impl.Method, values []int, facts []impl.Fact, choice int) []impl.Fact {
	matches := matchesByHand(m, values, facts)
	size := sizeByHand(m, len(matches))
	var chosen []impl.Fact
	for i, f := range matches {
		first := max(choice, 0) % len(matches)
		if (i-first+len(matches))%len(matches) < size {
			chosen = append(chosen, f)
		}
	}
	return chosen
}

func termByHand(values map[int]int, term int) int {
	if term < 10 {
		return term
	}
	return values[term]
}

// matchByHand is nil if a fact of the atom's relation does not match the atom.
func matchByHand(values map[int]int, a impl.Atom, f impl.Fact) map[int]int {
	extended := maps.Clone(values)
	for i, term := range a.Terms {
		if _, isKnown := extended[term]; term >= 10 && !isKnown {
			extended[term] = f.Values[i]
		}
		if termByHand(extended, term) != f.Values[i] {
			return nil
		}
	}
	return extended
}

// runByHand follows the document word by word, without the program: for each step in order, and each binding in order.
func runByHand(l []impl.Method, q impl.Query, order []impl.Step, facts []impl.Fact, choice int) impl.Run {
	var r impl.Run
	level := []map[int]int{{}}
	for _, s := range order {
		m, a := l[s.Method], q.Atoms[s.Atom]
		var next []map[int]int
		for _, values := range level {
			made := access(s.Method)
			for _, at := range m.Inputs {
				made.Values = append(made.Values, termByHand(values, a.Terms[at]))
			}
			if !slices.ContainsFunc(r.Log, func(before impl.Access) bool { return equalAccesses(made, before) }) {
				r.Log = append(r.Log, made)
				r.Cost += m.Cost
			}
			for _, f := range respondByHand(m, made.Values, facts, choice) {
				r.Got = append(r.Got, f)
				if extended := matchByHand(values, a, f); extended != nil {
					next = append(next, extended)
				}
			}
		}
		level = next
	}
	for _, values := range level {
		var head []int
		for _, v := range q.Head {
			head = append(head, values[v])
		}
		r.Answers = append(r.Answers, head)
	}
	slices.SortFunc(r.Answers, slices.Compare)
	r.Answers = slices.CompactFunc(r.Answers, slices.Equal)
	isTold := func(f impl.Fact) bool {
		return slices.ContainsFunc(r.Got, func(got impl.Fact) bool { return got.Rel == f.Rel && slices.Equal(got.Values, f.Values) })
	}
	r.Got = slices.DeleteFunc(deepCopy(facts), func(f impl.Fact) bool { return !isTold(f) })
	return r
}

func isExactByHand(l []impl.Method, order []impl.Step) bool {
	return !slices.ContainsFunc(order, func(s impl.Step) bool { return l[s.Method].Limit != 0 })
}

func logText(log []impl.Access) string {
	text := ""
	for i, a := range log {
		if i > 0 {
			text += " "
		}
		text += impl.FormatAccess(a)
	}
	return text
}

// runCase says in texts what a run for the schema 2, 1 has to be; Got is given by the indices of the facts.
type runCase struct {
	l       []impl.Method
	q       string
	steps   []impl.Step
	facts   []impl.Fact
	choice  int
	answers string
	log     string
	got     []int
	cost    int
}

func (c runCase) check(t *testing.T, why string) {
	t.Helper()
	q, ok := impl.ParseQuery([]int{2, 1}, c.q)
	r := impl.RunOrder([]int{2, 1}, c.l, q, c.steps, c.facts, c.choice)
	var got []impl.Fact
	for _, i := range c.got {
		got = append(got, c.facts[i])
	}
	if !ok || impl.FormatTuples(r.Answers) != c.answers || logText(r.Log) != c.log || !equalFacts(r.Got, got) || r.Cost != c.cost {
		t.Errorf("%s: %v, want the answers %s, the log %s, the facts %v and the cost %d", why, r, c.answers, c.log, got, c.cost)
	}
}

func TestRunOrder(t *testing.T) {
	// The facts by their indices: r0(1,2) r0(1,3) r0(4,2) r0(5,2) r0(6,5) r1(2) r1(7).
	d, l := callFacts(), someCalls()
	joined := "x0 if r0(1,x0) and r1(x0)"
	for why, c := range map[string]runCase{
		"a constant as the input":              {l, joined, steps(0, 0, 1, 1), d, 0, "(2)", "m0(1) m1()", []int{0, 1, 5, 6}, 3},
		"a choice of exact methods":            {l, joined, steps(0, 0, 1, 1), d, 5, "(2)", "m0(1) m1()", []int{0, 1, 5, 6}, 3},
		"in the other order":                   {l, joined, steps(1, 1, 0, 3), d, 0, "(2)", "m1() m3(1,2) m3(1,7)", []int{0, 5, 6}, 1},
		"an input of a binding, with a choice": {l, "x1 if r1(x0) and r0(x1,x0)", steps(0, 1, 1, 2), d, 1, "(4) (5)", "m1() m2(2) m2(7)", []int{2, 3, 5, 6}, 3},
		"with another choice":                  {l, "x1 if r1(x0) and r0(x1,x0)", steps(0, 1, 1, 2), d, 2, "(1) (5)", "m1() m2(2) m2(7)", []int{0, 3, 5, 6}, 3},
		"the first choice":                     {l, "x1 if r1(x0) and r0(x1,x0)", steps(0, 1, 1, 2), d, 0, "(1) (4)", "m1() m2(2) m2(7)", []int{0, 2, 5, 6}, 3},
		"a negative choice":                    {l, "x1 if r1(x0) and r0(x1,x0)", steps(0, 1, 1, 2), d, math.MinInt, "(1) (4)", "m1() m2(2) m2(7)", []int{0, 2, 5, 6}, 3},
		"the greatest choice":                  {l, "x1 if r1(x0) and r0(x1,x0)", steps(0, 1, 1, 2), d, math.MaxInt, "(4) (5)", "m1() m2(2) m2(7)", []int{2, 3, 5, 6}, 3},
		"a choice that misses the answer":      {l, "yes if r0(1,3)", steps(0, 4), d, 2, "none", "m4()", []int{2, 3, 4}, 99},
		"a choice that has it":                 {l, "yes if r0(1,3)", steps(0, 4), d, 0, "()", "m4()", []int{0, 1, 2}, 99},
		"a constant that is no input":          {l, "x0 if r0(x0,2)", steps(0, 4), d, 3, "(1) (5)", "m4()", []int{0, 3, 4}, 99},
		"a variable twice":                     {l, "x0 if r0(x0,x0)", steps(0, 4), d, 0, "none", "m4()", []int{0, 1, 2}, 99},
		"nothing for a call":                   {l, "x0 if r0(2,x0)", steps(0, 0), d, 0, "none", "m0(2)", nil, 2},
		"nothing left, so no further call":     {l, "x0 if r0(2,x0) and r1(x0)", steps(0, 0, 1, 1), d, 0, "none", "m0(2)", nil, 2},
		"nothing matches, so no further call":  {l, "x0 if r1(3) and r0(1,x0)", steps(0, 1, 1, 0), d, 0, "none", "m1()", []int{5, 6}, 1},
		"no facts":                             {l, joined, steps(0, 0, 1, 1), nil, 0, "none", "m0(1)", nil, 2},
		"no facts for a call without inputs":   {l, "yes if r1(x0)", steps(0, 1), nil, 0, "none", "m1()", nil, 1},
		"a head without variables":             {l, "yes if r1(x0)", steps(0, 1), d, 0, "()", "m1()", []int{5, 6}, 1},
		"answers in ascending order, each once": {l, "x1,x0 if r0(x0,x1) and r1(2)", steps(1, 1, 0, 4), d, 4,
			"(2,1) (3,1) (5,6)", "m1() m4()", []int{0, 1, 4, 5, 6}, 100},
		"three steps": {l, "x2 if r0(4,x0) and r0(x1,x0) and r0(x1,x2)", steps(0, 0, 1, 2, 2, 0), d, 0,
			"(2) (3)", "m0(4) m2(2) m0(1)", []int{0, 1, 2}, 5},
		"a method that is free of cost": {[]impl.Method{method(1, nil, 0, 0, 1)}, "x0 if r1(x0)", steps(0, 0), d, 0, "(2) (7)", "m0()", []int{5, 6}, 0},
		"more calls than a quota":       {[]impl.Method{method(1, nil, 0, 9, 1), method(0, []int{1}, 0, 3, 1)}, "x1 if r1(x0) and r0(x1,x0)", steps(0, 0, 1, 1), d, 0, "(1) (4) (5)", "m0() m1(2) m1(7)", []int{0, 2, 3, 5, 6}, 15},
	} {
		c.check(t, why)
	}
}

// A call that two bindings need is made, paid and logged once, where it is needed first, and both bindings get what it tells of.
func TestCallThatTwoBindingsNeed(t *testing.T) {
	l := []impl.Method{method(0, nil, 0, 7, 9), method(1, []int{0}, 0, 5, 9), method(0, []int{0}, 1, 3, 9), method(1, nil, 1, 2, 9), method(1, nil, 1, 1, 9)}
	// The facts by their indices; the first and the third value 2 of r0 are not next to each other.
	d := []impl.Fact{fact(0, 1, 2), fact(0, 1, 3), fact(0, 2, 5), fact(0, 2, 6), fact(0, 4, 2), fact(1, 2), fact(1, 3), fact(1, 6)}
	every := []int{0, 1, 2, 3, 4}
	for why, c := range map[string]runCase{
		"of two values, one is needed twice": {l, "x0,x1 if r0(x0,x1) and r1(x1)", steps(0, 0, 1, 1), d, 0,
			"(1,2) (1,3) (2,6) (4,2)", "m0() m1(2) m1(3) m1(5) m1(6)", []int{0, 1, 2, 3, 4, 5, 6, 7}, 27},
		"of the first values too": {l, "x0,x1 if r0(x0,x1) and r1(x0)", steps(0, 0, 1, 1), d, 0,
			"(2,5) (2,6)", "m0() m1(1) m1(2) m1(4)", []int{0, 1, 2, 3, 4, 5}, 22},
		"a source that chooses tells both the same": {l, "x0,x2 if r0(x0,x1) and r0(x1,x2)", steps(0, 0, 1, 2), d, 1,
			"(1,6) (4,6)", "m0() m2(2) m2(3) m2(5) m2(6)", every, 19},
		"all bindings need one call": {l, "x0,x2 if r0(x0,x1) and r1(x2)", steps(0, 0, 1, 3), d, 1,
			"(1,3) (2,3) (4,3)", "m0() m3()", []int{0, 1, 2, 3, 4, 6}, 9},
		"a call without variables": {l, "x0 if r0(x0,x1) and r1(3)", steps(0, 0, 1, 1), d, 1,
			"(1) (2) (4)", "m0() m1(3)", []int{0, 1, 2, 3, 4, 6}, 12},
		"nothing is told of to both": {l, "x0 if r0(x0,x1) and r1(9)", steps(0, 0, 1, 1), d, 1, "none", "m0() m1(9)", every, 12},
		"two steps need it":          {l, "x0,x1 if r1(x0) and r1(x1)", steps(0, 3, 1, 3), d, 2, "(6,6)", "m3()", []int{7}, 2},
		"the same atom twice":        {l, "x0 if r1(x0) and r1(x0)", steps(1, 3, 0, 3), d, 0, "(2)", "m3()", []int{5}, 2},
		"a later step needs it":      {l, "x0 if r1(2) and r0(x0,x1) and r1(x1)", steps(0, 1, 1, 0, 2, 1), d, 0, "(1) (2) (4)", "m1(2) m0() m1(3) m1(5) m1(6)", []int{0, 1, 2, 3, 4, 5, 6, 7}, 27},
		"equal methods are different calls": {l, "x0,x1 if r1(x0) and r1(x1)", steps(0, 3, 1, 4), d, 1,
			"(3,3)", "m3() m4()", []int{6}, 3},
	} {
		c.check(t, why)
	}
}

// All calls of a step come before those of the next one, also those for later bindings.
func TestLogIsByStepsAndThenByBindings(t *testing.T) {
	l := []impl.Method{method(0, nil, 0, 1, 9), method(0, []int{0}, 0, 1, 9), method(1, []int{0}, 0, 1, 9)}
	d := []impl.Fact{fact(0, 1, 8), fact(0, 1, 9), fact(0, 2, 7), fact(0, 7, 3), fact(0, 8, 6), fact(0, 8, 7), fact(0, 9, 5), fact(1, 3)}
	runCase{l, "x0,x2 if r0(x0,x1) and r1(x2) and r0(x1,x2)", steps(0, 0, 2, 1, 1, 2), d, 0, "(2,3) (8,3)",
		"m0() m1(8) m1(9) m1(7) m1(3) m1(6) m1(5) m2(6) m2(7) m2(5) m2(3)", []int{0, 1, 2, 3, 4, 5, 6, 7}, 11}.check(t, "a chain")
}

// runQuestion is what a run is asked for.
type runQuestion struct {
	l     []impl.Method
	q     impl.Query
	order []impl.Step
	facts []impl.Fact
}

// eachRunQuestion has many methods and queries, with some of their orders and some facts for each, for the schema 2, 1.
func eachRunQuestion(found func(runQuestion)) {
	lists := smallFacts()
	for i, l := range orderMethods() {
		for k, q := range orderQueries() {
			vars := impl.VarsOf(q)
			q.Head = vars[:min((i+k)%4, len(vars))]
			orders := ordersByTrial(l, q)
			for n := 0; n < len(orders); n += 1 + len(orders)/4 {
				found(runQuestion{l, q, orders[n], lists[(i+k+n)%len(lists)]})
				found(runQuestion{l, q, orders[n], lists[(i+3*k+5*n+1)%len(lists)]})
			}
		}
	}
}

// Whatever the sources choose, the run is that of the document, and has only answers; exact runs have them all.
func TestRunsHaveExactlyTheAnswers(t *testing.T) {
	s := []int{2, 1}
	exact, missed, again := 0, 0, 0
	eachRunQuestion(func(c runQuestion) {
		all := answersByTrial(c.q, c.facts)
		for choice := range 3 {
			r := impl.RunOrder(s, c.l, c.q, c.order, c.facts, choice)
			if want := runByHand(c.l, c.q, c.order, c.facts, choice); !equalRuns(r, want) {
				t.Fatalf("%v, choice %d: %v, want %v", c, choice, r, want)
			}
			isAnswer := func(tuple []int) bool {
				return slices.ContainsFunc(all, func(other []int) bool { return slices.Equal(tuple, other) })
			}
			if wrong := slices.DeleteFunc(copyTuples(r.Answers), isAnswer); len(wrong) > 0 {
				t.Fatalf("%v, choice %d: %v are no answers", c, choice, wrong)
			}
			isExact := impl.IsExact(c.l, c.order)
			if isExact != isExactByHand(c.l, c.order) || isExact && !equalTuples(r.Answers, all) {
				t.Fatalf("%v, choice %d: exact is %v, the answers are %v, want %v", c, choice, isExact, r.Answers, all)
			}
			if isExact && len(all) > 0 {
				exact++
			}
			if len(r.Answers) < len(all) {
				missed++
			}
			if len(r.Log) < len(r.Got) {
				again++
			}
		}
	})
	if exact < 1000 || missed < 100 || again < 1000 {
		t.Errorf("only %d exact runs with answers, %d that miss some, %d with more facts than calls", exact, missed, again)
	}
}

// A query with an atom more is contained in the one without it.
func TestContainedQueriesHaveNoOtherAnswersInRuns(t *testing.T) {
	s := []int{2, 1}
	count := 0
	eachRunQuestion(func(c runQuestion) {
		last := len(c.order) - 1
		if last == 0 || c.order[last].Atom != last || !isExactByHand(c.l, c.order) {
			return
		}
		outer := query(nil, c.q.Atoms[:last]...)
		outer.Head = impl.VarsOf(outer)
		outer.Head = outer.Head[:min(3, len(outer.Head))]
		inner := query(outer.Head, c.q.Atoms...)
		all := impl.RunOrder(s, c.l, outer, c.order[:last], c.facts, 0).Answers
		for _, tuple := range impl.RunOrder(s, c.l, inner, c.order, c.facts, 0).Answers {
			count++
			if !slices.ContainsFunc(all, func(other []int) bool { return slices.Equal(tuple, other) }) {
				t.Fatalf("%v: %v is an answer, but none of %v", c, tuple, all)
			}
		}
	})
	if count < 1000 {
		t.Errorf("only %d answers", count)
	}
}

// As many atoms, facts, variables and values at the inputs as there may be.
func TestRunsAtTheLimits(t *testing.T) {
	s := []int{3}
	l := []impl.Method{method(0, nil, 0, 99, 99), method(0, []int{0, 1, 2}, 0, 99, 99), method(0, []int{1}, 9, 99, 99), method(0, []int{0, 2}, 0, 99, 99)}
	for _, c := range []struct {
		q     impl.Query
		order []impl.Step
	}{
		{query([]int{10, 12, 14}, atom(0, 10, 11, 16), atom(0, 12, 13, 16), atom(0, 14, 15, 17), atom(0, 10, 11, 17)), steps(3, 0, 2, 0, 1, 0, 0, 1)},
		{query([]int{10, 11, 12}, atom(0, 10, 13, 14), atom(0, 11, 15, 16), atom(0, 12, 13, 16), atom(0, 17, 14, 15)), steps(0, 0, 1, 0, 3, 0, 2, 2)},
		{query([]int{17}, atom(0, 10, 11, 12), atom(0, 13, 14, 15), atom(0, 10, 16, 12), atom(0, 13, 14, 17)), steps(0, 0, 1, 0, 3, 2, 2, 3)},
	} {
		for _, choice := range []int{0, 2} {
			got, want := impl.RunOrder(s, l, c.q, c.order, triples(), choice), runByHand(l, c.q, c.order, triples(), choice)
			if !equalRuns(got, want) || len(got.Answers) == 0 {
				t.Errorf("%s: %v, want %v", impl.FormatQuery(c.q), got, want)
			}
		}
	}
}

// The 24^4 bindings of the last step have every list of three values as their heads.
func TestRunWithAllAnswers(t *testing.T) {
	var pairs []impl.Fact
	for n := range 24 {
		pairs = append(pairs, fact(0, n/10, n%10))
	}
	q := query([]int{11, 13, 15}, atom(0, 10, 11), atom(0, 12, 13), atom(0, 14, 15), atom(0, 16, 17))
	r := impl.RunOrder([]int{2}, []impl.Method{method(0, nil, 0, 4, 1)}, q, steps(0, 0, 1, 0, 2, 0, 3, 0), pairs, 0)
	for i, tuple := range r.Answers {
		if !slices.Equal(tuple, []int{i / 100, i / 10 % 10, i % 10}) {
			t.Fatalf("answer %d is %v", i, tuple)
		}
	}
	if len(r.Answers) != 1000 || logText(r.Log) != "m0()" || r.Cost != 4 || !equalFacts(r.Got, pairs) {
		t.Errorf("%d answers, %v, %d, %v", len(r.Answers), r.Log, r.Cost, r.Got)
	}
}

func TestRunOrderOfInvalid(t *testing.T) {
	for why, c := range invalidQuestions() {
		for _, order := range [][]impl.Step{nil, steps(0, 0, 1, 1), steps(1, 1, 0, 0), steps(1, 1)} {
			for _, facts := range [][]impl.Fact{nil, callFacts(), {fact(1, 2)}} {
				if r := impl.RunOrder(c.s, c.l, c.q, order, facts, 0); !isZeroRun(r) {
					t.Errorf("%s: the run of %v is %v", why, order, r)
				}
			}
		}
	}
	s, l, q, d := []int{2, 1}, orderCalls(), query([]int{10}, atom(0, 1, 10), atom(1, 10)), callFacts()
	if r := impl.RunOrder(s, l, q, steps(0, 0, 1, 1), d, 0); isZeroRun(r) {
		t.Error("the valid order does not run")
	}
	for why, order := range map[string][]impl.Step{
		"no steps":                      nil,
		"a step is missing":             steps(0, 0),
		"another one is missing":        steps(1, 1),
		"an atom twice":                 steps(0, 0, 0, 0),
		"a step too many":               steps(0, 0, 1, 1, 1, 1),
		"an input that is not known":    steps(0, 2, 1, 1),
		"a method of another relation":  steps(0, 1, 1, 1),
		"an atom that does not exist":   steps(0, 0, 2, 1),
		"a negative atom":               steps(-1, 0, 1, 1),
		"a method that does not exist":  steps(0, 0, 1, 3),
		"a negative method":             steps(0, -1, 1, 1),
		"the least and greatest number": steps(math.MinInt, math.MaxInt, math.MaxInt, math.MinInt),
	} {
		if r := impl.RunOrder(s, l, q, order, d, 0); !isZeroRun(r) {
			t.Errorf("%s: the run is %v", why, r)
		}
	}
	for why, facts := range map[string][]impl.Fact{
		"facts in descending order":  {fact(1, 2), fact(0, 1, 2)},
		"a fact twice":               {fact(0, 1, 2), fact(0, 1, 2)},
		"a fact with too few values": {fact(0, 1), fact(1, 2)},
		"a fact without values":      {fact(0), fact(1, 2)},
		"a value that is too great":  {fact(0, 1, 2), fact(1, 10)},
		"a negative value":           {fact(0, -1, 2), fact(0, 1, 2)},
		"a fact of no relation":      {fact(0, 1, 2), fact(2, 1)},
		"a negative relation":        {fact(-1, 1), fact(0, 1, 2)},
	} {
		for _, order := range [][]impl.Step{steps(0, 0, 1, 1), steps(1, 1, 0, 0)} {
			if r := impl.RunOrder(s, l, q, order, facts, 0); !isZeroRun(r) {
				t.Errorf("%s: the run is %v", why, r)
			}
		}
	}
	free := []impl.Method{method(0, nil, 0, 0, 1)}
	for count, want := range map[int]bool{24: false, 25: true} {
		facts := append(triples(), fact(0, 9, 9, 9))[:count]
		if r := impl.RunOrder([]int{3}, free, query(nil, atom(0, 10, 11, 12)), steps(0, 0), facts, 0); isZeroRun(r) != want {
			t.Errorf("the run on %d facts is %v", count, r)
		}
	}
}

func TestIsExact(t *testing.T) {
	l := []impl.Method{method(0, nil, 0, 2, 5), method(1, nil, 1, 1, 9), method(0, nil, 9, 0, 1), method(1, nil, -1, 0, 1), method(-7, []int{-7}, 0, -7, -7)}
	for _, c := range []struct {
		l     []impl.Method
		steps []impl.Step
		want  bool
	}{
		{l, nil, true},
		{nil, []impl.Step{}, true},
		{l, steps(0, 0), true},
		{l, steps(0, 0, 0, 0, 1, 0), true},
		{l, steps(0, 1), false},
		{l, steps(0, 1, 1, 0), false},
		{l, steps(0, 0, 1, 2), false},
		{l, steps(0, 0, 1, 3), false},
		// Neither the atoms nor anything else of a method counts.
		{l, steps(-1, 4, math.MaxInt, 0), true},
		{l, steps(0, 5), false},
		{l, steps(0, 0, 1, -1), false},
		{l, steps(0, math.MaxInt, 1, 0), false},
		{l, steps(0, 0, 1, math.MinInt), false},
		{l[:1], steps(0, 1), false},
		{nil, steps(0, 0), false},
	} {
		if got := impl.IsExact(c.l, c.steps); got != c.want {
			t.Errorf("IsExact(%v, %v) = %v", c.l, c.steps, got)
		}
	}
}

func TestUsesOf(t *testing.T) {
	log := []impl.Access{access(0, 1), access(1), access(0, 2), access(0, 1), access(-1), access(7, 8, 9), access(math.MaxInt), access(math.MinInt), access(math.MinInt)}
	for m, want := range map[int]int{0: 3, 1: 1, 2: 0, -1: 1, -2: 0, 7: 1, 8: 0, math.MaxInt: 1, math.MinInt: 2} {
		if got := impl.UsesOf(log, m); got != want {
			t.Errorf("UsesOf(%d) = %d, want %d", m, got, want)
		}
		if got := impl.UsesOf(nil, m); got != 0 {
			t.Errorf("%d uses of %d in an empty log", got, m)
		}
	}
}

func TestIsWithinQuota(t *testing.T) {
	l := []impl.Method{method(0, []int{0}, 0, 2, 2), method(1, nil, 0, 1, 1), method(0, nil, 1, 1, 0), method(0, nil, 1, 1, -1), method(-7, nil, -7, -7, 3)}
	most := []impl.Method{method(0, nil, 0, 0, 99)}
	for why, c := range map[string]struct {
		l    []impl.Method
		log  []impl.Access
		want bool
	}{
		"no accesses":                        {l, nil, true},
		"no accesses and no methods":         {nil, []impl.Access{}, true},
		"less than the quota":                {l, []impl.Access{access(0, 1)}, true},
		"as many as the quota":               {l, []impl.Access{access(0, 1), access(0, 2)}, true},
		"more than the quota":                {l, []impl.Access{access(0, 1), access(0, 2), access(0, 3)}, false},
		"the same access again":              {l, []impl.Access{access(0, 1), access(0, 1)}, true},
		"the same access too often":          {l, []impl.Access{access(1), access(1)}, false},
		"two methods, each as often as may":  {l, []impl.Access{access(0, 1), access(1), access(0, 2)}, true},
		"the second too often":               {l, []impl.Access{access(1), access(0, 1), access(1)}, false},
		"too often, with others in between":  {l, []impl.Access{access(0, 1), access(1), access(0, 2), access(4), access(0, 3)}, false},
		"the greatest quota":                 {most, slices.Repeat([]impl.Access{access(0)}, 99), true},
		"more than the greatest quota":       {most, slices.Repeat([]impl.Access{access(0)}, 100), false},
		"a method that does not exist":       {l, []impl.Access{access(0, 1), access(5)}, false},
		"a negative method":                  {l, []impl.Access{access(-1), access(0, 1)}, false},
		"the greatest method":                {l, []impl.Access{access(math.MaxInt)}, false},
		"the least method":                   {l, []impl.Access{access(math.MinInt)}, false},
		"no methods":                         {nil, []impl.Access{access(0)}, false},
		"a quota of nothing":                 {l, []impl.Access{access(2)}, false},
		"a negative quota":                   {l, []impl.Access{access(3)}, false},
		"nothing else of a method counts":    {l, []impl.Access{access(4, 99), access(4), access(4, -1, -1, -1, -1)}, true},
		"nothing else, but the quota counts": {l, []impl.Access{access(4), access(4), access(4), access(4)}, false},
	} {
		if got := impl.IsWithinQuota(c.l, c.log); got != c.want {
			t.Errorf("%s: IsWithinQuota(%v, %v) = %v", why, c.l, c.log, got)
		}
	}
}

func TestLogCost(t *testing.T) {
	l := []impl.Method{method(0, []int{0}, 0, 2, 5), method(1, nil, 0, 0, 9), method(0, nil, 0, 99, 1), method(0, nil, 0, 100, 1), method(0, nil, 0, -1, 1), method(-7, []int{-7}, -7, 30, -7), method(0, nil, 0, math.MaxInt, 1), method(0, nil, 0, math.MinInt, 1)}
	for _, c := range []struct {
		log  []impl.Access
		want int
	}{
		{nil, 0},
		{[]impl.Access{access(0, 1)}, 2},
		{[]impl.Access{access(0, 1), access(0, 1), access(0, 2)}, 6},
		{[]impl.Access{access(1), access(0, 1), access(2)}, 101},
		// Methods without a valid cost, and methods that do not exist.
		{[]impl.Access{access(3), access(0, 1)}, 2},
		{[]impl.Access{access(0, 1), access(4)}, 2},
		{[]impl.Access{access(6), access(7)}, 0},
		{[]impl.Access{access(8), access(2)}, 99},
		{[]impl.Access{access(-1), access(0)}, 2},
		{[]impl.Access{access(math.MaxInt), access(math.MinInt), access(2)}, 99},
		// Nothing else of a method counts, and no values do.
		{[]impl.Access{access(5, 99, -1), access(0)}, 32},
	} {
		if got := impl.LogCost(l, c.log); got != c.want {
			t.Errorf("LogCost(%v) = %d, want %d", c.log, got, c.want)
		}
	}
	if got := impl.LogCost(nil, []impl.Access{access(0)}); got != 0 {
		t.Errorf("%d without methods", got)
	}
}

// checkRunApart changes all lists of a run one after the other, and what is behind them.
func checkRunApart(t *testing.T, r impl.Run) {
	t.Helper()
	lists := slices.Clone(r.Answers)
	for _, f := range r.Got {
		lists = append(lists, f.Values)
	}
	for _, a := range r.Log {
		lists = append(lists, a.Values)
	}
	checkTuplesApart(t, lists)
	_, _, _ = append(r.Answers, []int{-5}), append(r.Got, fact(-5)), append(r.Log, access(-5))
	r.Answers[0], r.Got[0], r.Log[0] = []int{-6}, fact(-6), access(-6)
}

// All lists have spare capacity with other numbers in it.
func TestRunsLeaveArguments(t *testing.T) {
	numbers := []int{0, 77, 1, 10, 77, 10, 77, 10, 77, 1, 2, 77, 4, 2, 77, 2, 77}
	schema := []int{2, 1, 77}
	methods := []impl.Method{method(0, numbers[0:1], 0, 2, 5), method(1, []int{0}, 1, 1, 9), method(7, nil, 7, 7, 7)}
	atoms := []impl.Atom{atom(0, numbers[2:4]...), atom(1, numbers[5:6]...), atom(7, 7)}
	order := steps(0, 0, 1, 1, 7, 7)
	facts := []impl.Fact{fact(0, numbers[9:11]...), fact(0, numbers[12:14]...), fact(1, numbers[15:16]...), fact(9, 9)}
	q := impl.Query{Head: numbers[7:8], Atoms: atoms[:2]}
	numbersBefore, methodsBefore, atomsBefore, orderBefore, factsBefore := slices.Clone(numbers), slices.Clone(methods), slices.Clone(atoms), slices.Clone(order), deepCopy(facts)
	check := func(what string) {
		if !slices.Equal(numbers, numbersBefore) || !slices.Equal(schema, []int{2, 1, 77}) || !reflect.DeepEqual(methods, methodsBefore) || !reflect.DeepEqual(atoms, atomsBefore) || !slices.Equal(order, orderBefore) || !reflect.DeepEqual(facts, factsBefore) {
			t.Errorf("after %s the arguments are %v, %v, %v, %v, %v and %v", what, schema, numbers, methods, atoms, order, facts)
		}
	}
	run := func() impl.Run { return impl.RunOrder(schema[:2], methods[:2], q, order[:2], facts[:3], 4) }
	want := impl.Run{Answers: [][]int{{2}}, Log: []impl.Access{access(0, 1), access(1, 2)}, Got: []impl.Fact{fact(0, 1, 2), fact(1, 2)}, Cost: 3}
	r := run()
	if !equalRuns(r, want) {
		t.Errorf("the run is %v", r)
	}
	if impl.IsExact(methods[:2], order[:2]) || !impl.IsExact(methods[:2], order[:1]) || impl.UsesOf(r.Log, 1) != 1 || !impl.IsWithinQuota(methods[:2], r.Log) || impl.LogCost(methods[:2], r.Log) != 3 || !equalRuns(r, want) {
		t.Error("checks")
	}
	check("the calls")
	checkRunApart(t, r)
	check("a change of the results")
	if again := run(); !equalRuns(again, want) {
		t.Errorf("a result keeps memory of the one before: %v", again)
	}
}
