package tests

import (
	"math"
	"reflect"
	"slices"
	"testing"

	"loop.example/g01989/impl"
)

// equalCertificates holds nil and empty lists for equal.
func equalCertificates(a, b impl.Certificate) bool {
	return equalFacts(a.All, b.All) && equalFacts(a.Some, b.Some) && slices.Equal(a.Tuple, b.Tuple)
}

func exactByHand(l []impl.Method) []impl.Method {
	return slices.DeleteFunc(slices.Clone(l), func(m impl.Method) bool { return m.Limit > 0 })
}

// chosenAtoms has the atoms whose bits are set in mask; it is no query if the head has other variables.
func chosenAtoms(q impl.Query, mask int) (impl.Query, bool) {
	part := query(q.Head)
	for i, a := range q.Atoms {
		if mask>>i&1 == 1 {
			part.Atoms = append(part.Atoms, a)
		}
	}
	isLost := func(v int) bool { return !hasTerm(part, v) }
	return part, len(part.Atoms) > 0 && !slices.ContainsFunc(q.Head, isLost)
}

func partByHand(l []impl.Method, q impl.Query) (impl.Query, bool) {
	_, blocked := firstByHand(exactByHand(l), q)
	mask := 1<<len(q.Atoms) - 1
	for _, atom := range blocked {
		mask -= 1 << atom
	}
	return chosenAtoms(q, mask)
}

// hasPlanByHand tries all sets of atoms, and all orders for those that are equivalent to the query.
func hasPlanByHand(l []impl.Method, q impl.Query) bool {
	for mask := range 1 << len(q.Atoms) {
		part, isQuery := chosenAtoms(q, mask)
		if isQuery && containedByHand(part, q) && len(ordersByTrial(exactByHand(l), part)) > 0 {
			return true
		}
	}
	return false
}

func reachedByHand(l []impl.Method, facts []impl.Fact, seeds []int) []impl.Fact {
	states := reachByHand(l, facts, seeds)
	return states[len(states)-1].Facts
}

// isShownByHand tells whether a certificate with valid facts shows that a query is not feasible.
func isShownByHand(l []impl.Method, q impl.Query, c impl.Certificate) bool {
	seeds := constantsByHand(q)
	isSame := equalFacts(reachedByHand(l, c.All, seeds), reachedByHand(l, c.Some, seeds))
	return isSame && hasTuple(answersByTrial(q, c.All), c.Tuple) && !hasTuple(answersByTrial(q, c.Some), c.Tuple)
}

// eachFeasibleQuestion has many methods and queries with heads for the schema 2, 1.
func eachFeasibleQuestion(found func(n int, l []impl.Method, q impl.Query)) {
	for i, l := range append(orderMethods(), someCalls(), orderCalls()) {
		for k, q := range orderQueries() {
			vars := impl.VarsOf(q)
			q.Head = vars[:min((i+k)%3, len(vars))]
			found(i+k, l, q)
		}
	}
}

func TestAnswerablePart(t *testing.T) {
	first, all := method(0, []int{0}, 0, 2, 5), method(1, nil, 0, 1, 9)
	second, limited, few := method(0, []int{1}, 0, 1, 1), method(0, []int{1}, 1, 1, 2), method(0, nil, 9, 0, 99)
	for why, c := range map[string]struct {
		l       []impl.Method
		q, part string
	}{
		"all atoms":                        {orderCalls(), "x0 if r0(1,x0) and r1(x0)", "x0 if r0(1,x0) and r1(x0)"},
		"an atom that cannot be called":    {orderCalls(), "x1 if r0(1,x1) and r0(x0,x1)", "x1 if r0(1,x1)"},
		"the first atom cannot be called":  {orderCalls(), "x1 if r0(x0,x1) and r0(1,x1)", "x1 if r0(1,x1)"},
		"two atoms cannot be called":       {orderCalls(), "x1 if r0(x0,x1) and r0(1,x1) and r0(x2,1)", "x1 if r0(1,x1)"},
		"one that is called last is first": {orderCalls(), "x1,x0 if r0(x0,x1) and r0(x3,x1) and r1(x0)", "x1,x0 if r0(x0,x1) and r1(x0)"},
		"in the atoms' order":              {[]impl.Method{all, first}, "x2 if r0(x1,x2) and r0(x0,x1) and r1(x0) and r0(x4,x5)", "x2 if r0(x1,x2) and r0(x0,x1) and r1(x0)"},
		"the same atom twice":              {orderCalls(), "yes if r1(x0) and r1(x0) and r0(x3,1)", "yes if r1(x0) and r1(x0)"},
		"a head without variables":         {orderCalls(), "yes if r1(x0) and r0(x3,1)", "yes if r1(x0)"},
		"a head with a variable twice":     {orderCalls(), "x0,x0,x0 if r1(x0) and r0(x1,x1)", "x0,x0,x0 if r1(x0)"},
		"an exact method behind another":   {[]impl.Method{limited, second}, "x0 if r0(x0,4)", "x0 if r0(x0,4)"},
		"an exact method before another":   {[]impl.Method{second, limited}, "x0 if r0(x0,4) and r1(x0)", "x0 if r0(x0,4)"},
		"only a limit tells of the rest":   {[]impl.Method{few, all}, "x0 if r0(x0,x1) and r1(x0)", "x0 if r1(x0)"},
	} {
		q := readPairQuery(t, c.q)
		if got, ok := impl.AnswerablePart(pairSchema, c.l, q); !ok || impl.FormatQuery(got) != c.part {
			t.Errorf("%s: the part of %s is %s, %v, want %s", why, c.q, impl.FormatQuery(got), ok, c.part)
		}
	}
	for why, c := range map[string]struct {
		l []impl.Method
		q string
	}{
		"no atom can be called":            {orderCalls(), "yes if r0(x0,1) and r0(x1,x1)"},
		"the head is lost":                 {orderCalls(), "x0 if r0(x0,x1) and r1(x1)"},
		"a part of the head is lost":       {orderCalls(), "x1,x0 if r0(x0,x1) and r1(x1)"},
		"no methods":                       {nil, "yes if r1(3)"},
		"only methods with a limit":        {[]impl.Method{limited, few, method(1, nil, 9, 0, 1)}, "yes if r1(3) and r0(x0,3)"},
		"a limit before the exact methods": {[]impl.Method{limited, first}, "x0 if r0(x0,4)"},
		"a circle":                         {[]impl.Method{first}, "yes if r0(x0,x1) and r0(x1,x0)"},
	} {
		q := readPairQuery(t, c.q)
		if got, ok := impl.AnswerablePart(pairSchema, c.l, q); ok || !equalQueries(got, impl.Query{}) {
			t.Errorf("%s: the part of %s is %v, %v", why, c.q, got, ok)
		}
		if impl.IsFeasible(pairSchema, c.l, q) {
			t.Errorf("%s: %s is feasible", why, c.q)
		}
	}
}

func TestIsFeasible(t *testing.T) {
	first, all := method(0, []int{0}, 0, 2, 5), method(1, nil, 0, 1, 9)
	for _, c := range []struct {
		l    []impl.Method
		q    string
		want bool
	}{
		{orderCalls(), "x0 if r0(1,x0) and r1(x0)", true},
		{orderCalls(), "x0 if r1(x0)", true},
		{orderCalls(), "x0,x1 if r0(x0,x1) and r1(x0)", true},
		{orderCalls(), "x0,x1 if r0(x0,x1) and r1(x1)", false},
		{orderCalls(), "x1 if r0(x0,x1) and r1(x1)", false},
		{orderCalls(), "x0 if r0(x0,1)", false},
		{orderCalls(), "yes if r0(x0,x0)", false},
		{orderCalls(), "yes if r0(3,4)", true},
		{[]impl.Method{first}, "yes if r1(3)", false},
		{[]impl.Method{first, method(1, []int{0}, 0, 1, 1)}, "yes if r1(3) and r0(3,x0) and r1(x0)", true},
		{[]impl.Method{method(1, nil, 9, 0, 99)}, "x0 if r1(x0)", false},
		{[]impl.Method{method(1, nil, 9, 0, 99), all}, "x0 if r1(x0)", true},
		// These have no order, but their cores do.
		{orderCalls(), "x1 if r0(1,x1) and r0(x0,x1)", true},
		{orderCalls(), "x1 if r0(x0,x1) and r0(1,x1)", true},
		{orderCalls(), "x0 if r0(x1,x0) and r0(x2,x0) and r0(1,x0)", true},
		{orderCalls(), "x0 if r0(1,x0) and r0(x1,x0) and r0(x1,x2)", true},
		{orderCalls(), "yes if r0(x0,x1) and r0(x1,x0) and r0(1,1)", true},
		{orderCalls(), "yes if r0(x0,x1) and r0(x1,x2) and r0(3,3)", true},
		{orderCalls(), "x3 if r0(1,x3) and r1(x3) and r0(x0,x1)", true},
		{[]impl.Method{first, method(1, []int{0}, 0, 1, 1)}, "x0 if r0(1,x0) and r1(x0) and r1(x1)", true},
		{[]impl.Method{all}, "x0,x2 if r1(x0) and r1(x1) and r1(x2)", true},
		// The same with an atom for which the other ones do not stand.
		{orderCalls(), "x1,x0 if r0(1,x1) and r0(x0,x1)", false},
		{orderCalls(), "x1 if r0(1,x1) and r0(x0,x1) and r0(x0,2)", false},
		{orderCalls(), "x0 if r0(1,x0) and r0(x1,x0) and r0(x1,x1)", false},
		{orderCalls(), "x1 if r0(1,x1) and r0(x0,2)", false},
		{orderCalls(), "yes if r0(x0,x1) and r0(x1,x0) and r0(1,2)", false},
		{orderCalls(), "yes if r0(x0,x1) and r0(x1,x0) and r0(1,2) and r0(2,1)", true},
		{[]impl.Method{first}, "x1 if r0(1,x1) and r0(x0,x1) and r1(x0)", false},
		{[]impl.Method{first, method(1, []int{0}, 0, 1, 1)}, "x0 if r0(1,x0) and r1(x1)", false},
		{[]impl.Method{first, method(1, []int{0}, 3, 1, 1)}, "x0 if r0(1,x0) and r1(x0)", false},
	} {
		q := readPairQuery(t, c.q)
		if got := impl.IsFeasible(pairSchema, c.l, q); got != c.want {
			t.Errorf("%s is feasible: %v", c.q, got)
		}
		if _, shown := impl.CertificateFor(pairSchema, c.l, q); shown == c.want {
			t.Errorf("%s has a certificate: %v", c.q, shown)
		}
	}
}

// A query whose core is feasible, on facts for which its own atoms have many bindings.
func TestQueryWhoseCoreIsFeasible(t *testing.T) {
	d := []impl.Fact{fact(0, 1, 2), fact(0, 1, 3), fact(0, 4, 2), fact(0, 4, 7), fact(0, 5, 2), fact(1, 2), fact(1, 7)}
	for _, c := range []struct{ q, core, answers string }{
		{"x1 if r0(1,x1) and r0(x0,x1)", "x1 if r0(1,x1)", "(2) (3)"},
		{"x1 if r0(x0,x1) and r0(1,x1) and r1(x1)", "x1 if r0(1,x1) and r1(x1)", "(2)"},
		{"x0 if r0(4,x0) and r0(x1,x0) and r0(x1,x2)", "x0 if r0(4,x0)", "(2) (7)"},
		{"x1,x0 if r1(x0) and r0(4,x1) and r0(x2,x1) and r1(x3)", "x1,x0 if r1(x0) and r0(4,x1)", "(2,2) (2,7) (7,2) (7,7)"},
		{"yes if r0(x1,x2) and r0(4,7)", "yes if r0(4,7)", "()"},
		{"yes if r0(x1,x2) and r0(7,4)", "yes if r0(7,4)", "none"},
	} {
		q, core := readPairQuery(t, c.q), readPairQuery(t, c.core)
		if _, isOrder := impl.FindOrder(pairSchema, exactByHand(orderCalls()), q); isOrder {
			t.Errorf("%s has an order", c.q)
		}
		if got := impl.CoreOf(pairSchema, q); !equalQueries(got, core) && !impl.IsEquivalent(pairSchema, got, core) {
			t.Errorf("the core of %s is %s", c.q, impl.FormatQuery(got))
		}
		if !impl.IsFeasible(pairSchema, orderCalls(), q) || !impl.IsFeasible(pairSchema, orderCalls(), core) {
			t.Errorf("%s is not feasible", c.q)
		}
		got, ok := impl.FeasibleAnswers(pairSchema, orderCalls(), q, d)
		if !ok || impl.FormatTuples(got) != c.answers || !equalTuples(got, impl.AnswersOf(pairSchema, q, d)) {
			t.Errorf("the answers of %s are %v, %v, want %s", c.q, got, ok, c.answers)
		}
	}
}

// A query has a plan exactly if it is feasible, and for every other one a certificate shows why not.
func TestFeasibleExactlyIfThereIsAPlan(t *testing.T) {
	counts := map[bool]int{}
	byCore := 0
	eachFeasibleQuestion(func(n int, l []impl.Method, q impl.Query) {
		if len(q.Atoms) == 4 && len(l) > 4 {
			return
		}
		part, isPart := impl.AnswerablePart(pairSchema, l, q)
		want, wantPart := partByHand(l, q)
		if isPart != wantPart || isPart && !equalQueries(part, want) || !isPart && !equalQueries(part, impl.Query{}) {
			t.Fatalf("%v: the part of %s is %v, %v, want %v, %v", l, impl.FormatQuery(q), part, isPart, want, wantPart)
		}
		isFeasible := impl.IsFeasible(pairSchema, l, q)
		if isFeasible != hasPlanByHand(l, q) {
			t.Fatalf("%v: %s is feasible: %v", l, impl.FormatQuery(q), isFeasible)
		}
		counts[isFeasible]++
		if isFeasible && len(part.Atoms) < len(q.Atoms) {
			byCore++
		}
		c, isShown := impl.CertificateFor(pairSchema, l, q)
		if isShown == isFeasible || isFeasible && !equalCertificates(c, impl.Certificate{}) {
			t.Fatalf("%v: %s is feasible: %v, and its certificate %v, %v", l, impl.FormatQuery(q), isFeasible, c, isShown)
		}
		if isFeasible {
			return
		}
		all, values, _ := frozenByHand(q, nil)
		made := impl.Certificate{All: all, Some: reachedByHand(l, all, constantsByHand(q)), Tuple: valuesByHand(q.Head, values)}
		if !equalCertificates(c, made) || !impl.CheckCertificate(pairSchema, l, q, c) {
			t.Fatalf("%v: the certificate for %s is %v, want %v", l, impl.FormatQuery(q), c, made)
		}
		if n%5 == 0 && !isShownByHand(l, q, c) {
			t.Fatalf("%v: the certificate %v does not show that %s is not feasible", l, c, impl.FormatQuery(q))
		}
	})
	if counts[true] < 1000 || counts[false] < 1000 || byCore < 100 {
		t.Errorf("feasible or not are %v, %d by their cores", counts, byCore)
	}
}

// Feasible queries have all their answers, and all queries have those on what is reached; the others are lost.
func TestAnswersByCallsAreExactlyThoseOfFeasibleQueries(t *testing.T) {
	lists := append(smallFacts(), callFacts())
	feasible, lost, kept := 0, 0, 0
	eachFeasibleQuestion(func(n int, l []impl.Method, q impl.Query) {
		for i := range 2 {
			facts := lists[(n+5*i)%len(lists)]
			all := impl.AnswersOf(pairSchema, q, facts)
			got, ok := impl.FeasibleAnswers(pairSchema, l, q, facts)
			if ok != impl.IsFeasible(pairSchema, l, q) || ok && !equalTuples(got, all) || !ok && len(got) > 0 {
				t.Fatalf("%v: the answers of %s on %v are %v, %v, want %v", l, impl.FormatQuery(q), facts, got, ok, all)
			}
			maximal := impl.MaximalAnswers(pairSchema, l, q, facts)
			if want := answersByTrial(q, reachedByHand(l, facts, constantsByHand(q))); !equalTuples(maximal, want) {
				t.Fatalf("%v: %s on %v has the maximal answers %v, want %v", l, impl.FormatQuery(q), facts, maximal, want)
			}
			missed := slices.DeleteFunc(copyTuples(all), func(tuple []int) bool { return hasTuple(maximal, tuple) })
			if others := impl.LostAnswers(pairSchema, l, q, facts); !equalTuples(others, missed) || ok && len(missed) > 0 {
				t.Fatalf("%v: %s on %v has lost the answers %v, want %v", l, impl.FormatQuery(q), facts, others, missed)
			}
			if ok && len(all) > 0 {
				feasible++
			}
			if len(missed) > 0 {
				lost++
			}
			if !ok && len(maximal) > 0 {
				kept++
			}
		}
	})
	if feasible < 500 || lost < 500 || kept < 100 {
		t.Errorf("only %d feasible queries with answers, %d that lose some, %d others that have some", feasible, lost, kept)
	}
}

func TestAnswersByCalls(t *testing.T) {
	d := callFacts()
	few := []impl.Method{method(0, nil, 1, 0, 99), method(1, nil, 1, 0, 99), method(0, []int{0}, 1, 0, 99)}
	for why, c := range map[string]struct {
		l             []impl.Method
		q             string
		isFeasible    bool
		maximal, lost string
	}{
		"the document's query":                {someCalls(), "x0 if r0(1,x0) and r1(x0)", true, "(2)", "none"},
		"all answers are lost":                {someCalls(), "x0,x1 if r0(x0,x1) and r1(x1)", false, "none", "(1,2) (4,2) (5,2)"},
		"a constant leads to some":            {someCalls(), "x0 if r0(x0,x1) and r0(6,x1)", false, "(6)", "none"},
		"a constant leads to some, not all":   {someCalls(), "x0 if r0(x0,x1) and r0(4,x1)", false, "(4)", "(1) (5)"},
		"some are found by luck":              {someCalls(), "x0,x2 if r0(x0,x1) and r0(4,x2)", false, "(4,2)", "(1,2) (5,2) (6,2)"},
		"a fact or none":                      {someCalls(), "yes if r0(x0,x1)", false, "none", "()"},
		"no answers":                          {someCalls(), "x0 if r0(3,x0)", true, "none", "none"},
		"quotas do not matter":                {[]impl.Method{method(1, nil, 0, 0, 1), method(0, []int{0}, 0, 0, 1)}, "x0,x1 if r1(x0) and r0(x0,x1)", true, "none", "none"},
		"a quota that is not enough":          {[]impl.Method{method(0, nil, 0, 0, 1), method(1, []int{0}, 0, 0, 1)}, "x0,x1 if r0(x0,x1) and r1(x1)", true, "(1,2) (4,2) (5,2)", "none"},
		"no calls by methods with a limit":    {append(few, method(0, []int{0}, 0, 99, 1)), "x0 if r0(1,x0)", true, "(2) (3)", "none"},
		"exact methods behind limited ones":   {append(few, method(0, nil, 0, 99, 1)), "x0 if r0(x0,2)", true, "(1) (4) (5)", "none"},
		"only methods with a limit":           {few, "x0 if r0(1,x0)", false, "none", "(2) (3)"},
		"no methods":                          {nil, "x0 if r1(x0)", false, "none", "(2) (7)"},
		"a part that is called before others": {someCalls(), "x1 if r0(x0,x1) and r0(x2,x0) and r1(x2)", true, "none", "none"},
	} {
		q := readPairQuery(t, c.q)
		maximal, lost := impl.MaximalAnswers(pairSchema, c.l, q, d), impl.LostAnswers(pairSchema, c.l, q, d)
		if impl.FormatTuples(maximal) != c.maximal || impl.FormatTuples(lost) != c.lost {
			t.Errorf("%s: %s has the answers %v and has lost %v, want %s and %s", why, c.q, maximal, lost, c.maximal, c.lost)
		}
		got, ok := impl.FeasibleAnswers(pairSchema, c.l, q, d)
		if ok != c.isFeasible || ok && impl.FormatTuples(got) != c.maximal || !ok && len(got) > 0 {
			t.Errorf("%s: the answers of %s are %v, %v", why, c.q, got, ok)
		}
	}
}

func TestCertificateFor(t *testing.T) {
	for why, c := range map[string]struct {
		l    []impl.Method
		q    string
		want impl.Certificate
	}{
		"the document's query":         {orderCalls(), "x0,x1 if r0(x0,x1) and r1(x1)", impl.Certificate{All: []impl.Fact{fact(0, 0, 1), fact(1, 1)}, Some: []impl.Fact{fact(1, 1)}, Tuple: []int{0, 1}}},
		"nothing is reached":           {orderCalls(), "x1 if r0(x1,1)", impl.Certificate{All: []impl.Fact{fact(0, 0, 1)}, Tuple: []int{0}}},
		"no methods":                   {nil, "yes if r1(3)", impl.Certificate{All: []impl.Fact{fact(1, 3)}}},
		"constants lead on":            {orderCalls(), "x0,x2 if r0(3,x0) and r0(x0,x1) and r0(x2,x1)", impl.Certificate{All: []impl.Fact{fact(0, 0, 1), fact(0, 2, 1), fact(0, 3, 0)}, Some: []impl.Fact{fact(0, 0, 1), fact(0, 3, 0)}, Tuple: []int{0, 2}}},
		"a head without variables":     {orderCalls(), "yes if r0(x1,x1) and r1(0)", impl.Certificate{All: []impl.Fact{fact(0, 1, 1), fact(1, 0)}, Some: []impl.Fact{fact(1, 0)}}},
		"a limit tells of nothing":     {[]impl.Method{method(1, nil, 9, 0, 99)}, "x0 if r1(x0)", impl.Certificate{All: []impl.Fact{fact(1, 0)}, Tuple: []int{0}}},
		"the head in another order":    {orderCalls(), "x1,x0,x1 if r0(x0,x1)", impl.Certificate{All: []impl.Fact{fact(0, 0, 1)}, Tuple: []int{1, 0, 1}}},
		"two atoms become one fact":    {orderCalls(), "x0 if r0(x0,x0) and r0(x0,x0) and r1(9)", impl.Certificate{All: []impl.Fact{fact(0, 0, 0), fact(1, 9)}, Some: []impl.Fact{fact(1, 9)}, Tuple: []int{0}}},
		"a part, but not for the rest": {orderCalls(), "x1 if r0(1,x1) and r0(x0,x1) and r0(x0,2)", impl.Certificate{All: []impl.Fact{fact(0, 0, 2), fact(0, 0, 3), fact(0, 1, 3)}, Some: []impl.Fact{fact(0, 1, 3)}, Tuple: []int{3}}},
	} {
		q := readPairQuery(t, c.q)
		if got, ok := impl.CertificateFor(pairSchema, c.l, q); !ok || !equalCertificates(got, c.want) || !impl.CheckCertificate(pairSchema, c.l, q, got) {
			t.Errorf("%s: the certificate for %s is %v, %v, want %v", why, c.q, got, ok, c.want)
		}
	}
}

func TestCheckCertificate(t *testing.T) {
	// The query is "x0,x1 if r0(x0,x1) and r1(x1) and r0(2,x2)": r1 and what r0 has for 2 and for values of r1 can be called.
	q := query([]int{10, 11}, atom(0, 10, 11), atom(1, 11), atom(0, 2, 12))
	all, some := []impl.Fact{fact(0, 0, 1), fact(0, 2, 3), fact(1, 1)}, []impl.Fact{fact(0, 2, 3), fact(1, 1)}
	type certificate = impl.Certificate
	for why, c := range map[string]certificate{
		"as it is made":                 {All: all, Some: some, Tuple: []int{0, 1}},
		"with another fact in All":      {All: []impl.Fact{fact(0, 0, 1), fact(0, 2, 3), fact(0, 5, 6), fact(1, 1)}, Some: some, Tuple: []int{0, 1}},
		"with another fact in Some":     {All: all, Some: append([]impl.Fact{fact(0, 0, 2)}, some...), Tuple: []int{0, 1}},
		"with another answer for Some":  {All: all, Some: []impl.Fact{fact(0, 2, 3), fact(0, 4, 1), fact(1, 1)}, Tuple: []int{0, 1}},
		"with other values":             {All: []impl.Fact{fact(0, 2, 2), fact(0, 7, 9), fact(1, 9)}, Some: []impl.Fact{fact(0, 2, 2), fact(1, 9)}, Tuple: []int{7, 9}},
		"All has less than Some":        {All: all, Some: []impl.Fact{fact(0, 2, 3), fact(0, 4, 4), fact(0, 5, 5), fact(1, 1)}, Tuple: []int{0, 1}},
		"one of two answers of All":     {All: []impl.Fact{fact(0, 0, 1), fact(0, 2, 3), fact(0, 6, 1), fact(1, 1)}, Some: some, Tuple: []int{6, 1}},
		"facts that are reached from 3": {All: []impl.Fact{fact(0, 0, 1), fact(0, 2, 3), fact(0, 3, 1), fact(1, 1)}, Some: []impl.Fact{fact(0, 2, 3), fact(0, 3, 1), fact(1, 1)}, Tuple: []int{0, 1}},
	} {
		if !impl.CheckCertificate(pairSchema, orderCalls(), q, c) || !isShownByHand(orderCalls(), q, c) {
			t.Errorf("%s: %v shows nothing", why, c)
		}
	}
	for why, c := range map[string]certificate{
		"nothing":                           {},
		"both lists are the same":           {All: all, Some: all, Tuple: []int{0, 1}},
		"the lists in the other order":      {All: some, Some: all, Tuple: []int{0, 1}},
		"Some has too little":               {All: all, Some: some[1:], Tuple: []int{0, 1}},
		"Some has nothing":                  {All: all, Tuple: []int{0, 1}},
		"Some has more that is reached":     {All: all, Some: append([]impl.Fact{fact(0, 1, 1)}, some...), Tuple: []int{0, 1}},
		"All has more that is reached":      {All: append(deepCopy(all), fact(1, 2)), Some: some, Tuple: []int{0, 1}},
		"another tuple":                     {All: all, Some: some, Tuple: []int{1, 0}},
		"no tuple":                          {All: all, Some: some},
		"a tuple that is too short":         {All: all, Some: some, Tuple: []int{0}},
		"a tuple that is too long":          {All: all, Some: some, Tuple: []int{0, 1, 3}},
		"a tuple with a negative value":     {All: all, Some: some, Tuple: []int{-1, 1}},
		"a tuple that both have":            {All: []impl.Fact{fact(0, 0, 1), fact(0, 2, 1), fact(1, 1)}, Some: []impl.Fact{fact(0, 2, 1), fact(1, 1)}, Tuple: []int{2, 1}},
		"a tuple that All does not have":    {All: all, Some: some, Tuple: []int{2, 3}},
		"All in descending order":           {All: []impl.Fact{all[1], all[0], all[2]}, Some: some, Tuple: []int{0, 1}},
		"Some in descending order":          {All: all, Some: []impl.Fact{some[1], some[0]}, Tuple: []int{0, 1}},
		"a fact of All twice":               {All: append([]impl.Fact{all[0]}, all...), Some: some, Tuple: []int{0, 1}},
		"a fact of Some twice":              {All: all, Some: append([]impl.Fact{some[0]}, some...), Tuple: []int{0, 1}},
		"a value that is too great":         {All: append(deepCopy(all), fact(1, 10)), Some: append(deepCopy(some), fact(1, 10)), Tuple: []int{0, 1}},
		"an unreached value is too great":   {All: all, Some: append(deepCopy(some[:1]), fact(0, 4, 10), fact(1, 1)), Tuple: []int{0, 1}},
		"a fact of no relation":             {All: append(deepCopy(all), fact(2, 1)), Some: some, Tuple: []int{0, 1}},
		"a fact of no relation, in Some":    {All: all, Some: append(deepCopy(some), fact(2, 1)), Tuple: []int{0, 1}},
		"a fact with too few values":        {All: append([]impl.Fact{fact(0, 0)}, all...), Some: some, Tuple: []int{0, 1}},
		"a fact with too many, in Some":     {All: all, Some: append(deepCopy(some), fact(1, 1, 1)), Tuple: []int{0, 1}},
		"the greatest and the least number": {All: []impl.Fact{fact(math.MinInt, math.MaxInt)}, Some: []impl.Fact{fact(math.MaxInt, math.MinInt)}, Tuple: []int{math.MinInt}},
	} {
		if impl.CheckCertificate(pairSchema, orderCalls(), q, c) {
			t.Errorf("%s: %v is held for a certificate", why, c)
		}
	}
	// Without methods, nothing is reached among any facts, valid or not.
	for why, facts := range invalidFacts() {
		c := certificate{All: []impl.Fact{fact(1, 3)}}
		if one := query(nil, atom(1, 11)); !impl.CheckCertificate(pairSchema, nil, one, c) || impl.CheckCertificate(pairSchema, nil, one, certificate{All: c.All, Some: facts}) || impl.CheckCertificate(pairSchema, nil, one, certificate{All: facts}) {
			t.Errorf("%s, without methods", why)
		}
	}
}

// No facts show that a feasible query is not; for the others, the certificates that are accepted are those that show it.
func TestCheckCertificateAcceptsNothingElse(t *testing.T) {
	lists := append(smallFacts(), []impl.Fact{fact(0, 1, 1), fact(0, 2, 1)}, []impl.Fact{fact(0, 1, 1), fact(0, 3, 1), fact(0, 3, 2)})
	counts := map[bool]int{}
	eachFeasibleQuestion(func(n int, l []impl.Method, q impl.Query) {
		if n%4 > 0 {
			return
		}
		isFeasible := impl.IsFeasible(pairSchema, l, q)
		all := lists[n/4%len(lists)]
		others := [][]impl.Fact{lists[(n/4+2)%len(lists)], lists[(n/4+5)%len(lists)], reachedByHand(l, all, constantsByHand(q))}
		for _, some := range others {
			for _, tuple := range append(answersByTrial(q, all), nil, []int{2}) {
				c := impl.Certificate{All: all, Some: some, Tuple: tuple}
				got, want := impl.CheckCertificate(pairSchema, l, q, c), isShownByHand(l, q, c)
				if got != want || got && isFeasible {
					t.Fatalf("%v: %v for %s is a certificate: %v, want %v", l, c, impl.FormatQuery(q), got, want)
				}
				counts[got]++
			}
		}
	})
	if counts[true] < 200 || counts[false] < 1000 {
		t.Errorf("certificates or not are %v", counts)
	}
}

// Ten terms are the most for which there are enough values.
func TestFeasibleQueriesAtTheLimits(t *testing.T) {
	s := []int{3}
	free, first := []impl.Method{method(0, nil, 0, 99, 99)}, []impl.Method{method(0, []int{0}, 0, 99, 99)}
	ten, eleven := manyTerms(1, 8), manyTerms(1, 8, 3)
	if !impl.IsFeasible(s, free, ten) || impl.IsFeasible(s, first, ten) {
		t.Error("ten terms")
	}
	c, ok := impl.CertificateFor(s, first, ten)
	want := impl.Certificate{All: []impl.Fact{fact(0, 0, 2, 3), fact(0, 4, 5, 6), fact(0, 7, 9, 1), fact(0, 8, 9, 9)}, Some: []impl.Fact{fact(0, 8, 9, 9)}, Tuple: []int{3}}
	if !ok || !equalCertificates(c, want) || !impl.CheckCertificate(s, first, ten, c) || impl.CheckCertificate(s, free, ten, c) {
		t.Errorf("the certificate for ten terms is %v, %v", c, ok)
	}
	for why, l := range map[string][]impl.Method{"all can be called": free, "only a part can be called": first, "nothing can be called": nil} {
		if impl.IsFeasible(s, l, eleven) {
			t.Errorf("%s: eleven terms are feasible", why)
		}
		if c, ok := impl.CertificateFor(s, l, eleven); ok || !equalCertificates(c, impl.Certificate{}) {
			t.Errorf("%s: the certificate for eleven terms is %v, %v", why, c, ok)
		}
		if got, ok := impl.FeasibleAnswers(s, l, eleven, triples()); ok || len(got) > 0 {
			t.Errorf("%s: the answers for eleven terms are %v, %v", why, got, ok)
		}
	}
	if part, ok := impl.AnswerablePart(s, free, eleven); !ok || !equalQueries(part, eleven) {
		t.Errorf("the part of eleven terms is %v, %v", part, ok)
	}
	if all := impl.AnswersOf(s, eleven, triples()); !equalTuples(impl.MaximalAnswers(s, free, eleven, triples()), all) {
		t.Errorf("not all are maximal: %v", all)
	}
	// The part of this query has few enough terms, and stands for all of it.
	q := query([]int{10}, atom(0, 1, 2, 10), atom(0, 3, 11, 12), atom(0, 13, 14, 15), atom(0, 16, 17, 12))
	d := []impl.Fact{fact(0, 1, 2, 5), fact(0, 1, 2, 7), fact(0, 1, 3, 8), fact(0, 3, 0, 0), fact(0, 9, 9, 9)}
	got, ok := impl.FeasibleAnswers(s, first, q, d)
	if !ok || impl.FormatTuples(got) != "(5) (7)" || !impl.IsFeasible(s, first, q) {
		t.Errorf("the answers of eleven terms with a small part are %v, %v", got, ok)
	}
	if c, ok := impl.CertificateFor(s, first, q); ok || !equalCertificates(c, impl.Certificate{}) {
		t.Errorf("the certificate for a feasible query is %v, %v", c, ok)
	}
	// As many facts as there may be, with all atoms called one by one.
	chain := query([]int{13, 11}, atom(0, 1, 10, 11), atom(0, 10, 12, 13), atom(0, 12, 14, 15), atom(0, 14, 16, 17))
	got, ok = impl.FeasibleAnswers(s, first, chain, triples())
	if want := impl.AnswersOf(s, chain, triples()); !ok || len(want) == 0 || !equalTuples(got, want) {
		t.Errorf("the answers are %v, %v, want %v", got, ok, want)
	}
}

func checkNotFeasible(t *testing.T, why string, c question) {
	t.Helper()
	if part, ok := impl.AnswerablePart(c.s, c.l, c.q); ok || !equalQueries(part, impl.Query{}) {
		t.Errorf("%s: the part is %v, %v", why, part, ok)
	}
	if impl.IsFeasible(c.s, c.l, c.q) {
		t.Errorf("%s: feasible", why)
	}
	if made, ok := impl.CertificateFor(c.s, c.l, c.q); ok || !equalCertificates(made, impl.Certificate{}) {
		t.Errorf("%s: the certificate is %v, %v", why, made, ok)
	}
	for _, facts := range [][]impl.Fact{nil, callFacts(), {fact(1, 2)}} {
		if got, ok := impl.FeasibleAnswers(c.s, c.l, c.q, facts); ok || len(got) > 0 {
			t.Errorf("%s: the answers are %v, %v", why, got, ok)
		}
		if got := impl.MaximalAnswers(c.s, c.l, c.q, facts); len(got) > 0 {
			t.Errorf("%s: the maximal answers are %v", why, got)
		}
		if got := impl.LostAnswers(c.s, c.l, c.q, facts); len(got) > 0 {
			t.Errorf("%s: the lost answers are %v", why, got)
		}
		for _, tuple := range [][]int{nil, {2}, {1}, {1, 2}} {
			if impl.CheckCertificate(c.s, c.l, c.q, impl.Certificate{All: facts, Tuple: tuple}) {
				t.Errorf("%s: %v, %v is a certificate", why, facts, tuple)
			}
		}
	}
}

func TestFeasibleOfInvalid(t *testing.T) {
	for why, c := range invalidQuestions() {
		checkNotFeasible(t, why, c)
	}
	// Methods that are not used must be valid too, and there must not be too many with them.
	q, limited := query([]int{10}, atom(0, 1, 10), atom(1, 10)), method(0, []int{1}, 1, 1, 2)
	for why, l := range map[string][]impl.Method{
		"a limit that is too great":     append(orderCalls(), method(0, []int{0}, 10, 0, 1)),
		"a negative limit":              append(orderCalls(), method(0, []int{0}, -1, 0, 1)),
		"a method for no relation":      append(orderCalls(), method(2, []int{0}, 1, 0, 1)),
		"too many methods with a limit": append(orderCalls(), limited, limited, limited),
	} {
		checkNotFeasible(t, why, question{pairSchema, l, q})
	}
	if !impl.IsFeasible(pairSchema, append(orderCalls(), limited, limited), q) {
		t.Error("five methods are not too many")
	}
	for why, facts := range invalidFacts() {
		if got, ok := impl.FeasibleAnswers(pairSchema, orderCalls(), q, facts); ok || len(got) > 0 {
			t.Errorf("%s: the answers are %v, %v", why, got, ok)
		}
		for _, other := range []impl.Query{q, query([]int{10}, atom(1, 10)), query([]int{10}, atom(0, 10, 11)), query(nil, atom(1, 2))} {
			if got := impl.MaximalAnswers(pairSchema, orderCalls(), other, facts); len(got) > 0 {
				t.Errorf("%s: the maximal answers are %v", why, got)
			}
			if got := impl.LostAnswers(pairSchema, orderCalls(), other, facts); len(got) > 0 {
				t.Errorf("%s: the lost answers are %v", why, got)
			}
		}
	}
	for count, want := range map[int]bool{24: true, 25: false} {
		facts := append(triples(), fact(0, 9, 9, 9))[:count]
		one, free := query([]int{10}, atom(0, 10, 11, 12)), []impl.Method{method(0, nil, 0, 0, 1)}
		if got, ok := impl.FeasibleAnswers([]int{3}, free, one, facts); ok != want || (len(got) > 0) != want {
			t.Errorf("the answers on %d facts are %v, %v", count, got, ok)
		}
	}
}

// All lists have spare capacity with other numbers in it.
func TestFeasibleLeavesArguments(t *testing.T) {
	numbers := []int{0, 77, 1, 10, 77, 11, 10, 77, 10, 77, 1, 2, 77, 4, 2, 77, 2, 77, 0, 77}
	schema := []int{2, 1, 77}
	methods := []impl.Method{method(0, numbers[0:1], 0, 2, 5), method(1, nil, 0, 1, 9), method(7, nil, 7, 7, 7)}
	atoms := []impl.Atom{atom(0, numbers[2:4]...), atom(0, numbers[5:7]...), atom(7, 7)}
	facts := []impl.Fact{fact(0, numbers[10:12]...), fact(0, numbers[13:15]...), fact(1, numbers[16:17]...), fact(9, 9)}
	q := impl.Query{Head: numbers[8:9], Atoms: atoms[:2]}
	wide := impl.Query{Head: []int{11}, Atoms: atoms[1:2]}
	given := impl.Certificate{All: facts[1:3], Some: facts[2:3], Tuple: []int{4, 77}[:1]}
	numbersBefore, methodsBefore, atomsBefore, factsBefore := slices.Clone(numbers), slices.Clone(methods), copyQuery(query(nil, atoms...)).Atoms, deepCopy(facts)
	check := func(what string) {
		t.Helper()
		if !slices.Equal(numbers, numbersBefore) || !slices.Equal(schema, []int{2, 1, 77}) || !reflect.DeepEqual(methods, methodsBefore) || !reflect.DeepEqual(atoms, atomsBefore) || !reflect.DeepEqual(facts, factsBefore) || !slices.Equal(given.Tuple[:2], []int{4, 77}) {
			t.Errorf("after %s the arguments are %v, %v, %v, %v, %v and %v", what, schema, numbers, methods, atoms, facts, given.Tuple[:2])
		}
	}
	for range 2 {
		part, isPart := impl.AnswerablePart(schema[:2], methods[:2], q)
		answers, isFeasible := impl.FeasibleAnswers(schema[:2], methods[:2], q, facts[:3])
		made, isMade := impl.CertificateFor(schema[:2], methods[:2], wide)
		maximal, lost := impl.MaximalAnswers(schema[:2], methods[:2], q, facts[:3]), impl.LostAnswers(schema[:2], methods[:2], wide, facts[:3])
		if !isPart || !isFeasible || !isMade || !equalQueries(part, query([]int{10}, atom(0, 1, 10))) || !equalTuples(answers, [][]int{{2}}) || !equalTuples(maximal, answers) || !equalTuples(lost, [][]int{{1}, {4}}) {
			t.Errorf("%v, %v, %v and %v", part, answers, maximal, lost)
		}
		if !equalCertificates(made, impl.Certificate{All: []impl.Fact{fact(0, 1, 0)}, Tuple: []int{1}}) || !impl.CheckCertificate(schema[:2], methods[:2], wide, given) || !impl.IsFeasible(schema[:2], methods[:2], q) {
			t.Errorf("%v", made)
		}
		check("the calls")
		lists := slices.Concat([][]int{part.Head, part.Atoms[0].Terms, made.Tuple}, answers, maximal, lost)
		for _, f := range slices.Concat(made.All, made.Some) {
			lists = append(lists, f.Values)
		}
		checkTuplesApart(t, lists)
		_, _, _ = append(part.Atoms, atom(-3)), append(made.All, fact(-3)), append(made.Some, fact(-3))
		_, _, _ = append(answers, nil), append(maximal, nil), append(lost, nil)
		part.Atoms[0], made.All[0], answers[0], maximal[0], lost[0] = atom(-4), fact(-4), nil, nil, nil
		check("a change of the results")
	}
}

// Both lists of a certificate have the same fact, but not the same memory.
func TestCertificateSharesNothing(t *testing.T) {
	c, ok := impl.CertificateFor(pairSchema, orderCalls(), query([]int{10, 11}, atom(0, 10, 11), atom(1, 11)))
	if !ok || len(c.All) != 2 || len(c.Some) != 1 {
		t.Fatalf("the certificate is %v, %v", c, ok)
	}
	checkTuplesApart(t, [][]int{c.Tuple, c.All[0].Values, c.All[1].Values, c.Some[0].Values})
	_ = append(c.All, fact(-3))
	c.All[1] = fact(-4)
	if !equalFacts(c.Some, []impl.Fact{fact(1, -9)}) {
		t.Errorf("Some is %v", c.Some)
	}
}
