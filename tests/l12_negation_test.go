package tests

import (
	"math"
	"reflect"
	"slices"
	"strings"
	"testing"

	"loop.example/g01989/impl"
)

func readGuarded(t *testing.T, text string) impl.Guarded {
	t.Helper()
	parts := strings.Split(text, " unless ")
	g := impl.Guarded{Query: readPairQuery(t, parts[0])}
	for _, part := range parts[1:] {
		g.Not = append(g.Not, readPairQuery(t, "yes if "+part).Atoms...)
	}
	return g
}

func hasFactByHand(facts []impl.Fact, f impl.Fact) bool {
	return slices.ContainsFunc(facts, func(other impl.Fact) bool { return other.Rel == f.Rel && slices.Equal(other.Values, f.Values) })
}

// headsByHand has the heads of a query for some values of its variables, in ascending order, each once.
func headsByHand(q impl.Query, bindings []map[int]int) [][]int {
	var heads [][]int
	for _, values := range bindings {
		heads = append(heads, valuesByHand(q.Head, values))
	}
	slices.SortFunc(heads, slices.Compare)
	return slices.CompactFunc(heads, slices.Equal)
}

// guardedByTrial finds all values of the variables by a trial, and strikes out those for which a negated atom is a fact.
func guardedByTrial(g impl.Guarded, facts []impl.Fact) [][]int {
	vars := impl.VarsOf(g.Query)
	var left []map[int]int
	for _, row := range answersByTrial(query(vars, g.Query.Atoms...), facts) {
		values := map[int]int{}
		for i, v := range vars {
			values[v] = row[i]
		}
		isFact := func(a impl.Atom) bool { return hasFactByHand(facts, fact(a.Rel, valuesByHand(a.Terms, values)...)) }
		if !slices.ContainsFunc(g.Not, isFact) {
			left = append(left, values)
		}
	}
	return headsByHand(g.Query, left)
}

// guardedOrderByHand keeps the numbers of the exact methods: it gives the others a relation that no atom has.
func guardedOrderByHand(l []impl.Method, g impl.Guarded) ([]impl.Step, []int, bool) {
	exact := slices.Clone(l)
	for i := range exact {
		if exact[i].Limit > 0 {
			exact[i].Rel = -1
		}
	}
	order, blocked := firstByHand(exact, g.Query)
	var checks []int
	for _, a := range g.Not {
		isPossible := func(m impl.Method) bool { return isKnownByHand(m, a, g.Query.Atoms) }
		checks = append(checks, slices.IndexFunc(exact, isPossible))
	}
	if len(blocked) > 0 || slices.Contains(checks, -1) {
		return nil, nil, false
	}
	return order, checks, true
}

// guardedRunByHand follows the document word by word, without the program.
func guardedRunByHand(l []impl.Method, g impl.Guarded, facts []impl.Fact) ([][]int, []impl.Access, bool) {
	order, checks, ok := guardedOrderByHand(l, g)
	if !ok {
		return nil, nil, false
	}
	run := runByHand(l, g.Query, order, facts, 0)
	left := []map[int]int{{}}
	for _, a := range g.Query.Atoms {
		var next []map[int]int
		for _, values := range left {
			for _, f := range run.Got {
				if f.Rel != a.Rel {
					continue
				}
				if extended := matchByHand(values, a, f); extended != nil {
					next = append(next, extended)
				}
			}
		}
		left = next
	}
	for i, a := range g.Not {
		var next []map[int]int
		for _, values := range left {
			m, made := l[checks[i]], access(checks[i])
			for _, at := range m.Inputs {
				made.Values = append(made.Values, termByHand(values, a.Terms[at]))
			}
			if !slices.ContainsFunc(run.Log, func(before impl.Access) bool { return equalAccesses(made, before) }) {
				run.Log = append(run.Log, made)
			}
			if !hasFactByHand(respondByHand(m, made.Values, facts, 0), fact(a.Rel, valuesByHand(a.Terms, values)...)) {
				next = append(next, values)
			}
		}
		left = next
	}
	return headsByHand(g.Query, left), run.Log, true
}

// someNegated has none to four negated atoms of the variables of a query and of the constants 1 and 2.
func someNegated(q impl.Query, n int) []impl.Atom {
	terms := append([]int{1, 2}, impl.VarsOf(q)...)
	var not []impl.Atom
	for i := range n % 5 {
		a := atom(0, terms[(n/5+3*i)%len(terms)], terms[(n/7+i)%len(terms)])
		if (n/2+i)%3 == 0 {
			a = atom(1, terms[(n/3+i)%len(terms)])
		}
		not = append(not, a)
	}
	return not
}

func eachGuardedQuestion(found func(l []impl.Method, g impl.Guarded, facts []impl.Fact)) {
	lists := append(smallFacts(), callFacts())
	exact := []impl.Method{method(0, []int{0, 1}, 0, 0, 1), method(1, nil, 0, 3, 9), method(0, []int{0}, 0, 7, 1), method(1, []int{0}, 0, 1, 9)}
	backwards := []impl.Method{method(0, []int{0}, 1, 0, 1), method(1, []int{0}, 0, 1, 1), method(0, []int{1}, 0, 2, 1), method(1, nil, 0, 3, 9)}
	free := []impl.Method{method(1, []int{0}, 0, 1, 1), method(0, nil, 0, 2, 1), method(1, nil, 2, 3, 9)}
	methods := append(orderMethods(), someCalls(), orderCalls(), exact, backwards, free)
	for i, l := range methods {
		for k, q := range orderQueries() {
			if len(l) < 3 && (i+k)%4 > 0 {
				continue
			}
			vars := impl.VarsOf(q)
			q.Head = vars[:min((i+k)%4, len(vars))]
			for n := 7*i + 31*k; n < 7*i+31*k+100*len(l); n += 101 {
				found(l, impl.Guarded{Query: q, Not: someNegated(q, n)}, lists[n%len(lists)])
			}
		}
	}
}

func TestIsGuarded(t *testing.T) {
	for _, text := range []string{
		"x0 if r0(1,x0) unless r1(x0)",
		"x0 if r0(1,x0)",
		"x0 if r0(x1,x0) unless r1(x1)",
		"x0 if r0(1,x0) and r1(x1) unless r0(x0,x1)",
		"x0 if r0(1,x0) unless r0(1,x0)",
		"x0 if r0(1,x0) unless r1(x0) unless r1(x0)",
		"x0 if r0(x0,x0) unless r1(9) unless r0(x0,0) unless r0(x0,x0) unless r1(x0)",
		"x7,x0,x7 if r0(x0,x7) unless r0(x7,x0)",
		// Negated atoms without variables.
		"yes if r1(2) unless r1(3)",
		"yes if r1(2) unless r1(2)",
		"x0 if r1(x0) unless r0(0,9) unless r1(0)",
	} {
		if g := readGuarded(t, text); !impl.IsGuarded(pairSchema, g) {
			t.Errorf("%s is not valid", text)
		}
	}
	for _, text := range []string{
		"x0 if r0(1,x0) unless r1(x1)",
		"x0 if r0(1,x0) unless r0(x0,x1)",
		"x0 if r0(1,x0) unless r0(x1,x0)",
		"x0 if r0(1,x0) unless r1(x0) unless r1(x7)",
		"x0 if r0(1,x0) unless r1(x1) unless r1(x0)",
		// The variable of a negated atom is not one of the query.
		"x0 if r0(1,x0) unless r0(x0,x1) unless r1(x1)",
		"yes if r1(2) unless r1(x0)",
		"x0 if r1(x0) unless r1(1) unless r1(2) unless r1(3) unless r1(4) unless r1(5)",
		"x0 if r1(x0) unless r1(1) unless r1(1) unless r1(1) unless r1(1) unless r1(1)",
	} {
		if g := readGuarded(t, text); impl.IsGuarded(pairSchema, g) {
			t.Errorf("%s is valid", text)
		}
	}
}

func TestGuardedAnswers(t *testing.T) {
	// r0(1,2) r0(1,3) r0(4,2) r0(5,2) r0(6,5) r1(2) r1(7)
	d := callFacts()
	for text, want := range map[string]string{
		"x0 if r0(1,x0)":                           "(2) (3)",
		"x0 if r0(1,x0) unless r1(x0)":             "(3)",
		"x0 if r1(x0) unless r0(1,x0)":             "(7)",
		"x0,x1 if r0(x0,x1) unless r0(1,x1)":       "(6,5)",
		"x0 if r0(x0,2) unless r0(x0,3)":           "(4) (5)",
		"x0 if r1(x0) unless r1(x0)":               "none",
		"x0 if r1(x0) unless r0(x0,x0)":            "(2) (7)",
		"x0 if r0(2,x0) unless r1(x0)":             "none",
		"x0 if r0(x0,x1) and r1(x1) unless r1(x0)": "(1) (4) (5)",
		// A binding with 1 is left out, and another one is left.
		"x0 if r0(x0,x1) unless r1(x1)":       "(1) (6)",
		"yes if r1(x0) unless r0(1,x0)":       "()",
		"yes if r1(x0) unless r1(x0)":         "none",
		"x0,x0,x1 if r0(x0,x1) unless r1(x1)": "(1,1,3) (6,6,5)",
		// Each negated atom leaves out another answer.
		"x0 if r0(x0,2) unless r0(x0,3) unless r0(6,x0)": "(4)",
		"x0 if r0(x0,2) unless r0(6,x0) unless r0(x0,3)": "(4)",
		"x0 if r0(x0,2) unless r0(6,x0) unless r0(6,x0)": "(1) (4)",
		"x0 if r0(1,x0) unless r1(x0) unless r0(x0,x0)":  "(3)",
		"x0 if r0(1,x0) unless r0(x0,x0) unless r1(x0)":  "(3)",
	} {
		g := readGuarded(t, text)
		if got := impl.GuardedAnswers(pairSchema, g, d); impl.FormatTuples(got) != want {
			t.Errorf("the answers of %s are %v, want %s", text, got, want)
		}
		if got := impl.GuardedAnswers(pairSchema, g, nil); len(got) > 0 {
			t.Errorf("the answers of %s on nothing are %v", text, got)
		}
	}
}

// A negated atom without variables leaves all bindings, or none.
func TestNegatedAtomWithoutVariables(t *testing.T) {
	l := []impl.Method{method(0, []int{0}, 0, 2, 5), method(1, []int{0}, 0, 1, 9), method(1, nil, 0, 1, 9), method(0, nil, 0, 1, 9)}
	for text, c := range map[string]struct{ answers, log string }{
		"x0 if r0(1,x0) unless r1(3)":                           {"(2) (3)", "m0(1) m1(3)"},
		"x0 if r0(1,x0) unless r1(7)":                           {"none", "m0(1) m1(7)"},
		"x0 if r0(1,x0) unless r0(6,5)":                         {"none", "m0(1) m0(6)"},
		"x0 if r0(1,x0) unless r0(6,4)":                         {"(2) (3)", "m0(1) m0(6)"},
		"x0 if r0(1,x0) unless r0(1,9)":                         {"(2) (3)", "m0(1)"},
		"x0 if r0(1,x0) unless r0(1,3)":                         {"none", "m0(1)"},
		"x0 if r0(1,x0) unless r1(3) unless r1(x0)":             {"(3)", "m0(1) m1(3) m1(2)"},
		"x0 if r0(1,x0) unless r1(x0) unless r1(3)":             {"(3)", "m0(1) m1(2) m1(3)"},
		"x0 if r0(1,x0) unless r1(7) unless r1(x0)":             {"none", "m0(1) m1(7)"},
		"x0 if r0(1,x0) unless r1(x0) unless r1(7)":             {"none", "m0(1) m1(2) m1(3) m1(7)"},
		"x0 if r0(1,x0) unless r1(3) unless r1(4) unless r1(3)": {"(2) (3)", "m0(1) m1(3) m1(4)"},
		// Nothing is left to ask for.
		"x0 if r0(2,x0) unless r1(3)": {"none", "m0(2)"},
		"x0 if r0(2,x0) unless r1(7)": {"none", "m0(2)"},
		// A query without variables.
		"yes if r1(2) unless r1(3)":              {"()", "m1(2) m1(3)"},
		"yes if r1(2) unless r1(7)":              {"none", "m1(2) m1(7)"},
		"yes if r1(2) unless r1(2)":              {"none", "m1(2)"},
		"yes if r1(3) unless r1(4)":              {"none", "m1(3)"},
		"yes if r1(2) unless r0(4,2)":            {"none", "m1(2) m0(4)"},
		"yes if r1(2) unless r0(2,4)":            {"()", "m1(2) m0(2)"},
		"yes if r1(x0) unless r1(3)":             {"()", "m2() m1(3)"},
		"x0 if r1(x0) unless r0(4,4)":            {"(2) (7)", "m2() m0(4)"},
		"x0 if r1(x0) and r0(4,x0) unless r1(7)": {"none", "m2() m0(4) m1(7)"},
	} {
		g := readGuarded(t, text)
		if got := impl.GuardedAnswers(pairSchema, g, callFacts()); !impl.IsGuarded(pairSchema, g) || impl.FormatTuples(got) != c.answers {
			t.Errorf("the answers of %s are %v, want %s", text, got, c.answers)
		}
		got, log, ok := impl.RunGuarded(pairSchema, l, g, callFacts())
		if !ok || impl.FormatTuples(got) != c.answers || logText(log) != c.log {
			t.Errorf("the run of %s has %v, %v, %v, want %s by %s", text, got, log, ok, c.answers, c.log)
		}
		for _, tuple := range impl.AnswersOf(pairSchema, g.Query, callFacts()) {
			if impl.IsRefuted(pairSchema, g, callFacts(), tuple) == hasTuple(got, tuple) {
				t.Errorf("%v is an answer of %s and refuted, or none of both", tuple, text)
			}
		}
	}
}

func TestFindGuardedOrder(t *testing.T) {
	first, second, both, all := method(0, []int{0}, 0, 2, 5), method(0, []int{1}, 0, 1, 1), method(0, []int{0, 1}, 0, 9, 1), method(1, nil, 0, 1, 9)
	one, limited, few, some := method(1, []int{0}, 0, 5, 1), method(0, []int{0}, 1, 1, 2), method(0, nil, 9, 0, 99), method(1, nil, 1, 0, 1)
	for why, c := range map[string]struct {
		l      []impl.Method
		text   string
		order  string
		checks []int
	}{
		"the document's query":              {orderCalls(), "x0 if r0(1,x0) unless r1(x0)", "0/m0", []int{1}},
		"no negated atoms":                  {orderCalls(), "x0 if r0(1,x0) and r1(x0)", "0/m0 1/m1", nil},
		"the order is not that of atoms":    {orderCalls(), "x1 if r0(x0,x1) and r1(x0) unless r1(x1)", "1/m1 0/m0", []int{1}},
		"the same method again":             {orderCalls(), "x0 if r0(1,x0) unless r0(x0,1)", "0/m0", []int{0}},
		"checks in the atoms' order":        {orderCalls(), "x0 if r0(1,x0) unless r1(x0) unless r0(x0,x0) unless r1(4)", "0/m0", []int{1, 0, 1}},
		"all variables are known for one":   {[]impl.Method{both, first, all}, "x1 if r1(x0) and r0(x0,x1) unless r0(x1,x0)", "0/m2 1/m1", []int{0}},
		"also those of atoms behind":        {[]impl.Method{second, one, first}, "x1 if r0(1,x0) and r0(x1,x0) unless r1(x1) unless r0(x1,x1)", "0/m2 1/m0", []int{1, 0}},
		"the first of two":                  {[]impl.Method{all, one, second, first}, "x0 if r0(1,x0) unless r0(x0,1) unless r1(x0)", "0/m3", []int{2, 0}},
		"not the cheapest":                  {[]impl.Method{both, first, one, all}, "x0 if r0(1,x0) unless r0(x0,1) unless r1(x0)", "0/m1", []int{0, 2}},
		"a limit before the exact methods":  {[]impl.Method{limited, few, some, first, all}, "x0 if r0(1,x0) unless r1(x0) unless r0(x0,x0)", "0/m3", []int{4, 3}},
		"a limit behind the exact methods":  {[]impl.Method{first, all, limited, few, some}, "x0 if r0(1,x0) unless r1(x0) unless r0(x0,x0)", "0/m0", []int{1, 0}},
		"a limit would come first in order": {[]impl.Method{few, all, first}, "x0 if r0(x1,x0) and r1(x1) unless r1(x0)", "1/m1 0/m2", []int{1}},
		"a constant in a negated atom":      {[]impl.Method{all, second}, "x0 if r1(x0) unless r0(x0,9)", "0/m0", []int{1}},
		"no variables":                      {[]impl.Method{one, both}, "yes if r1(2) unless r0(2,3) unless r1(4)", "0/m0", []int{1, 0}},
		"four negated atoms":                {[]impl.Method{one, both}, "yes if r1(2) unless r0(2,3) unless r1(4) unless r1(5) unless r0(5,5)", "0/m0", []int{1, 0, 0, 1}},
	} {
		order, checks, ok := impl.FindGuardedOrder(pairSchema, c.l, readGuarded(t, c.text))
		if !ok || impl.FormatOrder(order) != c.order || !slices.Equal(checks, c.checks) {
			t.Errorf("%s: %s has %v, %v, %v, want %s, %v", why, c.text, order, checks, ok, c.order, c.checks)
		}
	}
	for why, c := range map[string]struct {
		l    []impl.Method
		text string
	}{
		"no methods":                       {nil, "x0 if r1(x0)"},
		"no order":                         {orderCalls(), "x0 if r0(x1,x0) unless r1(x0)"},
		"no order, nothing negated":        {orderCalls(), "x0 if r0(x1,x0)"},
		"an atom of two has no step":       {orderCalls(), "x0 if r1(x0) and r0(x1,x1) unless r1(x0)"},
		"an order by a limit only":         {[]impl.Method{limited, all}, "x0 if r0(1,x0) unless r1(x0)"},
		"one of two steps by a limit only": {[]impl.Method{few, all}, "x0 if r1(x0) and r0(1,x0) unless r1(x0)"},
		"nothing calls the negated one":    {[]impl.Method{first}, "x0 if r0(1,x0) unless r1(x0)"},
		"a limit calls the negated one":    {[]impl.Method{first, some}, "x0 if r0(1,x0) unless r1(x0)"},
		"nothing calls the first of two":   {[]impl.Method{all}, "x0 if r1(x0) unless r0(x0,1) unless r1(3)"},
		"nothing calls the last of two":    {[]impl.Method{all}, "x0 if r1(x0) unless r1(3) unless r0(x0,1)"},
		"a limit calls the last of three":  {[]impl.Method{all, limited}, "x0 if r1(x0) unless r1(3) unless r1(x0) unless r0(x0,1)"},
		"nothing calls one without vars":   {[]impl.Method{all}, "x0 if r1(x0) unless r0(1,2)"},
		"a negated atom gives no values":   {[]impl.Method{all, first}, "x0 if r0(x0,x1) unless r1(x0)"},
	} {
		g := readGuarded(t, c.text)
		if order, checks, ok := impl.FindGuardedOrder(pairSchema, c.l, g); ok || len(order) > 0 || len(checks) > 0 {
			t.Errorf("%s: %s has %v, %v, %v", why, c.text, order, checks, ok)
		}
		for _, facts := range [][]impl.Fact{nil, callFacts()} {
			if got, log, ok := impl.RunGuarded(pairSchema, c.l, g, facts); ok || len(got) > 0 || len(log) > 0 {
				t.Errorf("%s: the run of %s is %v, %v, %v", why, c.text, got, log, ok)
			}
		}
	}
}

func TestRunGuarded(t *testing.T) {
	limited, first, one, all := method(0, nil, 2, 0, 1), method(0, []int{0}, 0, 2, 1), method(1, []int{0}, 0, 1, 1), method(1, nil, 0, 3, 1)
	both, free := method(0, []int{0, 1}, 0, 1, 1), method(0, nil, 0, 1, 1)
	l := []impl.Method{limited, first, one, all, both}
	// r0(1,2) r0(1,3) r0(4,2) r0(5,2) r0(6,5) r1(2) r1(7)
	d := callFacts()
	crossed := []impl.Fact{fact(0, 1, 2), fact(0, 1, 3), fact(0, 2, 7), fact(0, 2, 9), fact(0, 3, 7), fact(0, 9, 2), fact(1, 7), fact(1, 9)}
	for why, c := range map[string]struct {
		l            []impl.Method
		text         string
		facts        []impl.Fact
		answers, log string
	}{
		"the document's query":             {orderCalls(), "x0 if r0(1,x0) unless r1(x0)", d, "(3)", "m0(1) m1()"},
		"a call for each binding":          {l, "x0 if r0(1,x0) unless r1(x0)", d, "(3)", "m1(1) m2(2) m2(3)"},
		"nothing negated":                  {l, "x0 if r0(1,x0)", d, "(2) (3)", "m1(1)"},
		"a negated atom that the run asks": {l, "x0 if r0(1,x0) unless r0(1,x0)", d, "none", "m1(1)"},
		"the response has other facts":     {l, "x0 if r0(1,x0) unless r0(x0,1)", d, "(2) (3)", "m1(1) m1(2) m1(3)"},
		"other facts with the same input":  {l, "x0 if r0(4,x0) unless r0(1,4) unless r0(1,2)", d, "none", "m1(4) m1(1)"},
		"only those left are asked for":    {l, "x0 if r0(1,x0) unless r1(x0) unless r0(x0,4)", d, "(3)", "m1(1) m2(2) m2(3) m1(3)"},
		"in the other order":               {l, "x0 if r0(1,x0) unless r0(x0,4) unless r1(x0)", d, "(3)", "m1(1) m1(2) m1(3) m2(2) m2(3)"},
		"nothing is left for the second":   {l, "x0 if r0(4,x0) unless r1(x0) unless r0(x0,4)", d, "none", "m1(4) m2(2)"},
		"nothing is left for the last":     {l, "x0 if r0(1,x0) unless r1(x0) unless r0(1,x0) unless r1(9)", d, "none", "m1(1) m2(2) m2(3)"},
		"no binding to begin with":         {l, "x0 if r0(2,x0) unless r1(x0) unless r1(1)", d, "none", "m1(2)"},
		"no facts":                         {l, "x0 if r0(2,x0) unless r1(x0)", nil, "none", "m1(2)"},
		"two bindings need a call":         {[]impl.Method{free, one}, "x0 if r0(x0,x1) unless r1(x1)", d, "(1) (6)", "m0() m1(2) m1(3) m1(5)"},
		"two negated atoms need a call":    {[]impl.Method{free, one}, "x0 if r0(x0,3) unless r1(x0) unless r1(1)", d, "(1)", "m0() m1(1)"},
		"a call that the run has made":     {[]impl.Method{one, first}, "x0 if r1(2) and r0(4,x0) unless r1(2)", d, "none", "m0(2) m1(4)"},
		"the second one is refuted":        {[]impl.Method{all, free}, "x0 if r1(x0) unless r0(4,x0)", d, "(7)", "m0() m1()"},
		"a head without variables":         {[]impl.Method{all, free}, "yes if r1(x0) unless r0(4,x0)", d, "()", "m0() m1()"},
		"a head without variables, none":   {[]impl.Method{all, free}, "yes if r1(x0) unless r1(x0)", d, "none", "m0()"},
		"more calls than a quota":          {[]impl.Method{free, one}, "x1 if r0(x0,x1) unless r1(x0)", d, "(2) (3) (5)", "m0() m1(1) m1(4) m1(5) m1(6)"},
		// By the first atom, the bindings are 2,7 and 3,7 and 2,9; by the order of the steps, 2,9 comes before 3,7.
		"by the atoms, not by the steps": {[]impl.Method{both, first, one}, "x0,x1 if r1(x1) and r0(1,x0) and r0(x0,x1) unless r0(x1,x0)", crossed, "(2,7) (3,7)",
			"m1(1) m1(2) m1(3) m2(7) m2(9) m0(7,2) m0(7,3) m0(9,2)"},
		"a query of two steps": {[]impl.Method{first, one}, "x1,x0 if r0(1,x0) and r0(x0,x1) unless r1(x0) unless r1(x1)", crossed, "none",
			"m0(1) m0(2) m0(3) m1(2) m1(3) m1(7) m1(9)"},
	} {
		g := readGuarded(t, c.text)
		got, log, ok := impl.RunGuarded(pairSchema, c.l, g, c.facts)
		if !ok || impl.FormatTuples(got) != c.answers || logText(log) != c.log {
			t.Errorf("%s: the run of %s has %v, %v, %v, want %s by %s", why, c.text, got, logText(log), ok, c.answers, c.log)
		}
		if want := impl.GuardedAnswers(pairSchema, g, c.facts); !equalTuples(got, want) {
			t.Errorf("%s: the answers of %s are %v, want %v", why, c.text, got, want)
		}
	}
}

func TestIsRefuted(t *testing.T) {
	d := callFacts()
	for _, c := range []struct {
		text  string
		tuple []int
		want  bool
	}{
		{"x0 if r0(1,x0) unless r1(x0)", []int{2}, true},
		{"x0 if r0(1,x0) unless r1(x0)", []int{3}, false},
		{"x0 if r0(1,x0) unless r1(x0)", []int{7}, false},
		{"x0 if r0(1,x0) unless r1(x0)", []int{4}, false},
		{"x0 if r0(1,x0) unless r1(x0)", nil, false},
		{"x0 if r0(1,x0) unless r1(x0)", []int{2, 2}, false},
		{"x0 if r0(1,x0) unless r1(x0)", []int{2, 0}, false},
		{"x0 if r0(1,x0) unless r1(x0)", []int{10}, false},
		{"x0 if r0(1,x0)", []int{2}, false},
		{"x0 if r0(1,x0) unless r1(x0) unless r0(1,x0)", []int{2}, true},
		{"x0 if r0(1,x0) unless r1(x0) unless r0(1,x0)", []int{3}, true},
		// Another binding is left for the same tuple.
		{"x0 if r0(x0,x1) unless r1(x1)", []int{1}, false},
		{"x0 if r0(x0,x1) unless r1(x1)", []int{4}, true},
		{"x0 if r0(x0,x1) unless r1(x1)", []int{6}, false},
		{"x0,x1 if r0(x0,x1) unless r1(x1)", []int{1, 2}, true},
		{"x0,x1 if r0(x0,x1) unless r1(x1)", []int{2, 1}, false},
		{"x0,x1 if r0(x0,x1) unless r1(x1)", []int{1, 3}, false},
		{"x0,x1 if r0(x0,x1) unless r1(x1)", []int{1}, false},
		{"yes if r1(2) unless r1(7)", nil, true},
		{"yes if r1(2) unless r1(7)", []int{}, true},
		{"yes if r1(2) unless r1(7)", []int{2}, false},
		{"yes if r1(2) unless r1(3)", nil, false},
		{"yes if r1(3) unless r1(7)", nil, false},
		{"yes if r1(x0) unless r0(1,x0)", nil, false},
	} {
		g := readGuarded(t, c.text)
		if got := impl.IsRefuted(pairSchema, g, d, c.tuple); got != c.want {
			t.Errorf("%v is refuted for %s: %v", c.tuple, c.text, got)
		}
		if impl.IsRefuted(pairSchema, g, nil, c.tuple) {
			t.Errorf("%v is refuted for %s without facts", c.tuple, c.text)
		}
	}
}

// Answers are exactly those for which all atoms are facts and no negated one is, and a run has exactly these.
func TestGuardedByHand(t *testing.T) {
	runs, left, refuted, checked := 0, 0, 0, 0
	eachGuardedQuestion(func(l []impl.Method, g impl.Guarded, facts []impl.Fact) {
		text := impl.FormatGuarded(g)
		if !impl.IsGuarded(pairSchema, g) {
			t.Fatalf("%s is not valid", text)
		}
		answers, want := impl.GuardedAnswers(pairSchema, g, facts), guardedByTrial(g, facts)
		if !equalTuples(answers, want) {
			t.Fatalf("the answers of %s on %v are %v, want %v", text, facts, answers, want)
		}
		all := answersByTrial(g.Query, facts)
		for _, tuple := range append(slices.Clone(all), nil, []int{1}, []int{2, 1}, []int{1, 2, 1}) {
			isRefuted := hasTuple(all, tuple) && !hasTuple(want, tuple)
			if got := impl.IsRefuted(pairSchema, g, facts, tuple); got != isRefuted {
				t.Fatalf("%v is refuted for %s on %v: %v", tuple, text, facts, got)
			}
			if isRefuted {
				refuted++
			}
		}
		order, checks, ok := impl.FindGuardedOrder(pairSchema, l, g)
		wantOrder, wantChecks, wantOk := guardedOrderByHand(l, g)
		if ok != wantOk || !slices.Equal(order, wantOrder) || !slices.Equal(checks, wantChecks) {
			t.Fatalf("%v: %s has %v, %v, %v, want %v, %v", l, text, order, checks, ok, wantOrder, wantChecks)
		}
		got, log, ok := impl.RunGuarded(pairSchema, l, g, facts)
		byHand, logByHand, _ := guardedRunByHand(l, g, facts)
		if ok != wantOk || !equalTuples(got, byHand) || !slices.EqualFunc(log, logByHand, equalAccesses) {
			t.Fatalf("%v: the run of %s on %v has %v, %v, %v, want %v, %v", l, text, facts, got, logText(log), ok, byHand, logText(logByHand))
		}
		if !ok {
			return
		}
		runs++
		if !equalTuples(got, want) {
			t.Fatalf("%v: the run of %s on %v has %v, want %v", l, text, facts, got, want)
		}
		if len(g.Not) > 0 && len(got) > 0 {
			left++
		}
		if len(log) > len(runByHand(l, g.Query, order, facts, 0).Log) {
			checked++
		}
	})
	if runs < 2000 || left < 200 || refuted < 2000 || checked < 300 {
		t.Errorf("%d runs, %d of them with answers and negated atoms, %d with calls for these; %d refuted tuples", runs, left, checked, refuted)
	}
}

// As many negated atoms, facts and answers as there may be. There are 24^4 bindings: the first values are 0 and 1, and 2 before 0 to 3.
func TestGuardedAtTheLimits(t *testing.T) {
	var pairs []impl.Fact
	for n := range 24 {
		pairs = append(pairs, fact(0, n/10, n%10))
	}
	q := query([]int{11, 13, 15}, atom(0, 10, 11), atom(0, 12, 13), atom(0, 14, 15), atom(0, 16, 17))
	l := []impl.Method{method(0, []int{0, 1}, 0, 99, 99), method(0, nil, 0, 99, 99)}
	for why, c := range map[string]struct {
		not          []impl.Atom
		answers, log int
	}{
		"nothing is left out":         {[]impl.Atom{atom(0, 9, 9), atom(0, 8, 8), atom(0, 7, 7), atom(0, 6, 6)}, 1000, 1 + 4},
		"the last one leaves nothing": {[]impl.Atom{atom(0, 9, 9), atom(0, 8, 8), atom(0, 7, 7), atom(0, 2, 3)}, 0, 1 + 4},
		// The first one leaves 2, and the last one 2 to 9.
		"a part is left": {[]impl.Atom{atom(0, 16, 9), atom(0, 9, 17), atom(0, 8, 13), atom(0, 13, 8)}, 800, 1 + 3 + 4 + 10 + 9},
	} {
		g := impl.Guarded{Query: q, Not: c.not}
		got, log, ok := impl.RunGuarded([]int{2}, l, g, pairs)
		if answers := impl.GuardedAnswers([]int{2}, g, pairs); !ok || len(got) != c.answers || !equalTuples(got, answers) || len(log) != c.log {
			t.Errorf("%s: %d and %d answers, %s", why, len(got), len(answers), logText(log))
		}
	}
}

// checkNotGuarded checks what all functions return for a query with negated atoms that is not valid.
func checkNotGuarded(t *testing.T, why string, s []int, g impl.Guarded) {
	t.Helper()
	if impl.IsGuarded(s, g) {
		t.Errorf("%s: %v is valid", why, g)
	}
	if order, checks, ok := impl.FindGuardedOrder(s, orderCalls(), g); ok || len(order) > 0 || len(checks) > 0 {
		t.Errorf("%s: the order is %v, %v, %v", why, order, checks, ok)
	}
	for _, facts := range [][]impl.Fact{nil, callFacts(), {fact(1, 2)}} {
		if got := impl.GuardedAnswers(s, g, facts); len(got) > 0 {
			t.Errorf("%s: the answers are %v", why, got)
		}
		if got, log, ok := impl.RunGuarded(s, orderCalls(), g, facts); ok || len(got) > 0 || len(log) > 0 {
			t.Errorf("%s: the run is %v, %v, %v", why, got, log, ok)
		}
		for _, tuple := range append(impl.AnswersOf(s, g.Query, facts), nil, []int{2}) {
			if impl.IsRefuted(s, g, facts, tuple) {
				t.Errorf("%s: %v is refuted", why, tuple)
			}
		}
	}
}

func TestGuardedOfInvalid(t *testing.T) {
	q := query([]int{10}, atom(0, 1, 10), atom(1, 10))
	for why, a := range map[string]impl.Atom{
		"another variable":         atom(1, 11),
		"another second variable":  atom(0, 10, 17),
		"a number that is no term": atom(1, 18),
		"a negative number":        atom(1, -1),
		"the least number":         atom(0, 10, math.MinInt),
		"the greatest number":      atom(0, math.MaxInt, 10),
		"too few terms":            atom(0, 10),
		"too many terms":           atom(1, 10, 10),
		"no terms":                 atom(1),
		"a relation beyond all":    atom(2, 10),
		"a negative relation":      atom(-1, 10),
		"the greatest relation":    atom(math.MaxInt, 10),
	} {
		for _, not := range [][]impl.Atom{{a}, {a, atom(1, 10)}, {atom(1, 10), a}, {atom(1, 10), atom(0, 10, 10), atom(1, 3), a}, {a, a}} {
			checkNotGuarded(t, why, pairSchema, impl.Guarded{Query: q, Not: not})
		}
	}
	for _, count := range []int{5, 6, 1000} {
		for _, a := range []impl.Atom{atom(1, 2), atom(1, 3), atom(0, 10, 10)} {
			checkNotGuarded(t, "too many", pairSchema, impl.Guarded{Query: q, Not: slices.Repeat([]impl.Atom{a}, count)})
		}
	}
	for why, spoiled := range invalidQueries() {
		for _, not := range [][]impl.Atom{nil, {atom(1, 2)}, {atom(1, 3)}, {atom(1, 10)}} {
			checkNotGuarded(t, why, spoiled.s, impl.Guarded{Query: spoiled.q, Not: not})
		}
	}
}

func TestGuardedOfInvalidMethodsAndFacts(t *testing.T) {
	for why, c := range invalidQuestions() {
		for _, not := range [][]impl.Atom{nil, {atom(1, 2)}, {atom(1, 3)}, {atom(1, 10)}} {
			g := impl.Guarded{Query: c.q, Not: not}
			if order, checks, ok := impl.FindGuardedOrder(c.s, c.l, g); ok || len(order) > 0 || len(checks) > 0 {
				t.Errorf("%s: the order is %v, %v, %v", why, order, checks, ok)
			}
			if got, log, ok := impl.RunGuarded(c.s, c.l, g, callFacts()); ok || len(got) > 0 || len(log) > 0 {
				t.Errorf("%s: the run is %v, %v, %v", why, got, log, ok)
			}
		}
	}
	// Methods that are not used must be valid too, and there must not be too many with them.
	g, limited := impl.Guarded{Query: query([]int{10}, atom(0, 1, 10)), Not: []impl.Atom{atom(1, 10)}}, method(0, []int{1}, 1, 1, 2)
	for count, want := range map[int]bool{1: true, 2: true, 3: false} {
		l := append(orderCalls(), slices.Repeat([]impl.Method{limited}, count)...)
		order, checks, ok := impl.FindGuardedOrder(pairSchema, l, g)
		got, log, isRun := impl.RunGuarded(pairSchema, l, g, callFacts())
		if ok != want || isRun != want || len(order) > 0 != want || len(checks) > 0 != want || len(got) > 0 != want || len(log) > 0 != want {
			t.Errorf("with %d methods the order is %v, %v, %v, and the run %v, %v, %v", len(l), order, checks, ok, got, log, isRun)
		}
	}
	for _, text := range []string{"x0 if r0(2,x0) unless r1(x0)", "x0 if r0(2,x0)", "yes if r1(2) unless r1(9)", "x0 if r1(x0) unless r1(x0)"} {
		g := readGuarded(t, text)
		for why, facts := range invalidFacts() {
			if got := impl.GuardedAnswers(pairSchema, g, facts); len(got) > 0 {
				t.Errorf("%s: the answers are %v", why, got)
			}
			if got, log, ok := impl.RunGuarded(pairSchema, orderCalls(), g, facts); ok || len(got) > 0 || len(log) > 0 {
				t.Errorf("%s: the run is %v, %v, %v", why, got, log, ok)
			}
			for _, tuple := range [][]int{nil, {2}, {3}} {
				if impl.IsRefuted(pairSchema, g, facts, tuple) {
					t.Errorf("%s: %v is refuted", why, tuple)
				}
			}
		}
	}
	one, free := impl.Guarded{Query: query([]int{10}, atom(0, 10, 11, 12)), Not: []impl.Atom{atom(0, 10, 10, 10)}}, []impl.Method{method(0, nil, 0, 0, 1)}
	for count, want := range map[int]bool{24: true, 25: false} {
		facts := append(triples(), fact(0, 9, 9, 9))[:count]
		answers := impl.GuardedAnswers([]int{3}, one, facts)
		got, log, ok := impl.RunGuarded([]int{3}, free, one, facts)
		if ok != want || len(got) > 0 != want || len(log) > 0 != want || len(answers) > 0 != want || impl.IsRefuted([]int{3}, one, facts, []int{0}) != want {
			t.Errorf("on %d facts the answers are %v, and the run is %v, %v, %v", count, answers, got, log, ok)
		}
	}
}

func TestFormatGuarded(t *testing.T) {
	q, yes := query([]int{10}, atom(0, 1, 10), atom(1, 10)), query(nil, atom(2, 3, 17, 9))
	for _, c := range []struct {
		g    impl.Guarded
		want string
	}{
		{impl.Guarded{Query: q}, "x0 if r0(1,x0) and r1(x0)"},
		{impl.Guarded{Query: q, Not: []impl.Atom{atom(1, 10)}}, "x0 if r0(1,x0) and r1(x0) unless r1(x0)"},
		{impl.Guarded{Query: q, Not: []impl.Atom{atom(0, 10, 1), atom(1, 3)}}, "x0 if r0(1,x0) and r1(x0) unless r0(x0,1) unless r1(3)"},
		{impl.Guarded{Query: yes, Not: []impl.Atom{atom(0, 17, 17)}}, "yes if r2(3,x7,9) unless r0(x7,x7)"},
		{impl.Guarded{Query: yes, Not: []impl.Atom{atom(2, 0, 1, 2), atom(2, 0, 1, 2)}}, "yes if r2(3,x7,9) unless r2(0,1,2) unless r2(0,1,2)"},
		// Neither the variables nor the number of the negated atoms count.
		{impl.Guarded{Query: yes, Not: []impl.Atom{atom(1, 10)}}, "yes if r2(3,x7,9) unless r1(x0)"},
		{impl.Guarded{Query: yes, Not: slices.Repeat([]impl.Atom{atom(1, 0)}, 6)}, "yes if r2(3,x7,9)" + strings.Repeat(" unless r1(0)", 6)},
	} {
		if got := impl.FormatGuarded(c.g); got != c.want {
			t.Errorf("FormatGuarded(%v) = %s, want %s", c.g, got, c.want)
		}
	}
	for why, spoiled := range map[string]impl.Query{
		"no atoms":                   {},
		"a head, no atoms":           query([]int{10}),
		"too many atoms":             query(nil, atom(1, 1), atom(1, 1), atom(1, 1), atom(1, 1), atom(1, 1)),
		"a head of another variable": query([]int{11}, atom(1, 10)),
		"a number that is no term":   query(nil, atom(1, 18)),
		"a relation beyond all":      query(nil, atom(3, 1)),
	} {
		for _, not := range [][]impl.Atom{nil, {atom(1, 10)}, {atom(1, 10), atom(1, 11)}} {
			if got := impl.FormatGuarded(impl.Guarded{Query: spoiled, Not: not}); got != "" {
				t.Errorf("%s: FormatGuarded of %v, %v is %s", why, spoiled, not, got)
			}
		}
	}
	for why, a := range map[string]impl.Atom{
		"a relation beyond all":    atom(3, 1),
		"a negative relation":      atom(-1, 1),
		"no terms":                 atom(1),
		"too many terms":           atom(1, 1, 1, 1, 1),
		"a number that is no term": atom(1, 18),
		"a negative number":        atom(1, -1),
	} {
		for _, not := range [][]impl.Atom{{a}, {a, atom(1, 10)}, {atom(1, 10), a}, {atom(1, 10), a, atom(1, 10)}} {
			if got := impl.FormatGuarded(impl.Guarded{Query: q, Not: not}); got != "" {
				t.Errorf("%s: FormatGuarded of %v is %s", why, not, got)
			}
		}
	}
}

// All lists have spare capacity with other numbers in it.
func TestGuardedLeavesArguments(t *testing.T) {
	numbers := []int{0, 77, 1, 10, 77, 10, 77, 10, 77, 10, 1, 77, 1, 2, 77, 1, 3, 77, 2, 77}
	schema := []int{2, 1, 77}
	methods := []impl.Method{method(0, numbers[0:1], 0, 2, 5), method(1, nil, 0, 1, 9), method(7, nil, 7, 7, 7)}
	atoms := []impl.Atom{atom(0, numbers[2:4]...), atom(7, 7), atom(1, numbers[5:6]...), atom(0, numbers[9:11]...), atom(7, 7)}
	facts := []impl.Fact{fact(0, numbers[12:14]...), fact(0, numbers[15:17]...), fact(1, numbers[18:19]...), fact(9, 9)}
	tuple := []int{2, 77}
	g := impl.Guarded{Query: impl.Query{Head: numbers[7:8], Atoms: atoms[:1]}, Not: atoms[2:4]}
	numbersBefore, methodsBefore, atomsBefore, factsBefore := slices.Clone(numbers), slices.Clone(methods), copyQuery(query(nil, atoms...)).Atoms, deepCopy(facts)
	check := func(what string) {
		t.Helper()
		if !slices.Equal(numbers, numbersBefore) || !slices.Equal(schema, []int{2, 1, 77}) || !reflect.DeepEqual(methods, methodsBefore) || !reflect.DeepEqual(atoms, atomsBefore) || !reflect.DeepEqual(facts, factsBefore) || !slices.Equal(tuple, []int{2, 77}) {
			t.Errorf("after %s the arguments are %v, %v, %v, %v, %v and %v", what, schema, numbers, methods, atoms, facts, tuple)
		}
	}
	for range 2 {
		answers := impl.GuardedAnswers(schema[:2], g, facts[:3])
		order, checks, isOrder := impl.FindGuardedOrder(schema[:2], methods[:2], g)
		got, log, isRun := impl.RunGuarded(schema[:2], methods[:2], g, facts[:3])
		if !equalTuples(answers, [][]int{{3}}) || !equalTuples(got, answers) || logText(log) != "m0(1) m1() m0(3)" || !isRun {
			t.Errorf("%v, %v, %v and %v", answers, got, log, isRun)
		}
		if !isOrder || !slices.Equal(order, steps(0, 0)) || !slices.Equal(checks, []int{1, 0}) || !impl.IsRefuted(schema[:2], g, facts[:3], tuple[:1]) || !impl.IsGuarded(schema[:2], g) || impl.FormatGuarded(g) != "x0 if r0(1,x0) unless r1(x0) unless r0(x0,1)" {
			t.Errorf("%v, %v and %v", order, checks, isOrder)
		}
		check("the calls")
		lists := slices.Concat(answers, got, [][]int{checks})
		for _, a := range log {
			lists = append(lists, a.Values)
		}
		checkTuplesApart(t, lists)
		_, _, _, _ = append(answers, nil), append(got, nil), append(log, access(-5)), append(order, impl.Step{Atom: -5})
		answers[0], got[0], log[0], order[0] = nil, nil, access(-6), impl.Step{Atom: -6}
		check("a change of the results")
	}
}
