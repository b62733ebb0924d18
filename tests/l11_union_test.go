package tests

import (
	"reflect"
	"slices"
	"testing"

	"loop.example/g01989/impl"
)

func readUnion(t *testing.T, texts ...string) []impl.Query {
	t.Helper()
	var u []impl.Query
	for _, text := range texts {
		u = append(u, readPairQuery(t, text))
	}
	return u
}

func equalUnions(a, b []impl.Query) bool {
	return slices.EqualFunc(a, b, equalQueries)
}

func copyUnion(u []impl.Query) []impl.Query {
	var c []impl.Query
	for _, q := range u {
		c = append(c, copyQuery(q))
	}
	return c
}

func isInByHand(q impl.Query, u []impl.Query) bool {
	return slices.ContainsFunc(u, func(other impl.Query) bool { return containedByHand(q, other) })
}

// minimalByHand strikes out queries, and looks only at those that are not struck out.
func minimalByHand(u []impl.Query) []impl.Query {
	isOut := make([]bool, len(u))
	for i, q := range u {
		for k, other := range u {
			isOut[i] = isOut[i] || k != i && !isOut[k] && containedByHand(q, other)
		}
	}
	var left []impl.Query
	for i, q := range u {
		if !isOut[i] {
			left = append(left, q)
		}
	}
	return left
}

// unionByTrial has the answers of all queries of a list by a trial of all values.
func unionByTrial(u []impl.Query, facts []impl.Fact) [][]int {
	var all [][]int
	for _, q := range u {
		all = append(all, answersByTrial(q, facts)...)
	}
	slices.SortFunc(all, slices.Compare)
	return slices.CompactFunc(all, slices.Equal)
}

func partsByHand(l []impl.Method, u []impl.Query) []impl.Query {
	var parts []impl.Query
	for _, q := range u {
		if part, isPart := partByHand(l, q); isPart {
			parts = append(parts, part)
		}
	}
	return parts
}

// hasUnionPlanByHand tries all sets of atoms of all queries, the others' too: a union has a plan if each of its queries is contained in one that has an order and that is contained in the union.
func hasUnionPlanByHand(l []impl.Method, u []impl.Query) bool {
	var planned []impl.Query
	for _, q := range u {
		for mask := range 1 << len(q.Atoms) {
			part, isQuery := chosenAtoms(q, mask)
			if isQuery && isInByHand(part, u) && len(ordersByTrial(exactByHand(l), part)) > 0 {
				planned = append(planned, part)
			}
		}
	}
	return !slices.ContainsFunc(u, func(q impl.Query) bool { return !isInByHand(q, planned) })
}

// isShownInfeasible makes a certificate for the query at, with values that no constant of the union has, and looks whether all calls agree on its facts, also those with constants of the other queries.
func isShownInfeasible(l []impl.Method, u []impl.Query, at int) bool {
	var seeds []int
	for _, q := range u {
		seeds = append(seeds, constantsByHand(q)...)
	}
	all, values, isFrozen := frozenByHand(u[at], seeds)
	states := reachByHand(l, all, seeds)
	some := states[len(states)-1].Facts
	tuple := valuesByHand(u[at].Head, values)
	isAgreed := slices.EqualFunc(states, reachByHand(l, some, seeds), equalReached)
	return isFrozen && isAgreed && hasTuple(unionByTrial(u, all), tuple) && !hasTuple(unionByTrial(u, some), tuple)
}

// withTerm puts a term in the place of a variable of the atoms; the head stays as it is.
func withTerm(q impl.Query, v, term int) impl.Query {
	c := copyQuery(q)
	for _, a := range c.Atoms {
		for i, other := range a.Terms {
			if other == v {
				a.Terms[i] = term
			}
		}
	}
	return c
}

// someUnion has a query, and none to two that are made of it or of others: with an atom less, with a term in the place of a variable, or as they are. Numbers that have the same quotient by 6 have the same queries, in another order or more or fewer of them.
func someUnion(n int) []impl.Query {
	digit := func(count int) int {
		d := n % count
		n /= count
		return d
	}
	isReversed, count := digit(2) == 1, 1+digit(3)
	kinds, size := [2]int{digit(8), digit(8)}, digit(3)
	all := orderQueries()
	at := digit(len(all))
	q := all[at]
	others := []impl.Query{q, impl.DropAtom(q, 0), impl.DropAtom(q, len(q.Atoms)-1), withTerm(q, 11, 10), withTerm(q, 11, 1), withTerm(q, 10, 12), all[(3*at+1)%len(all)], all[(7*at+5)%len(all)]}
	u := copyUnion([]impl.Query{q, others[kinds[0]], others[kinds[1]]}[:count])
	u = slices.DeleteFunc(u, func(q impl.Query) bool { return len(q.Atoms) == 0 })
	if isReversed {
		slices.Reverse(u)
	}
	for _, q := range u {
		size = min(size, len(impl.VarsOf(q)))
	}
	for i := range u {
		u[i].Head = impl.VarsOf(u[i])[:size]
	}
	return u
}

func eachUnionQuestion(found func(n int, l []impl.Method, u []impl.Query)) {
	methods := append(orderMethods(), someCalls(), orderCalls())
	for i := range 6000 {
		n := i * 7919 % 292608
		l, u := methods[i%len(methods)], someUnion(n)
		isLarge := func(q impl.Query) bool { return len(q.Atoms) == 4 && len(l) > 4 }
		if !slices.ContainsFunc(u, isLarge) {
			found(n, l, u)
		}
	}
}

func TestUnionLimits(t *testing.T) {
	if impl.MaxParts != 3 {
		t.Errorf("MaxParts is %d", impl.MaxParts)
	}
}

func TestIsUnion(t *testing.T) {
	for why, texts := range map[string][]string{
		"one query":                         {"x0 if r1(x0)"},
		"two queries":                       {"x0 if r1(x0)", "x1 if r0(x1,x2)"},
		"three queries":                     {"x0 if r1(x0)", "x1 if r0(x1,x2)", "x0 if r0(1,x0) and r1(x0)"},
		"the same query three times":        {"x0 if r1(x0)", "x0 if r1(x0)", "x0 if r1(x0)"},
		"heads without variables":           {"yes if r1(x0)", "yes if r1(3)"},
		"heads of two":                      {"x0,x0 if r1(x0)", "x1,x2 if r0(x1,x2)"},
		"heads of three":                    {"x0,x0,x0 if r1(x0)", "x1,x2,x1 if r0(x1,x2)"},
		"parts that contain each other":     {"x0 if r0(x0,x1)", "x0 if r0(x0,x1) and r0(x0,x2)"},
		"as many atoms as there can be":     {"yes if r1(1) and r1(2) and r1(3) and r1(4)", "yes if r1(1)"},
		"different numbers of atoms, heads": {"x0,x1 if r1(x0) and r1(x1)", "x1,x1 if r0(x1,x1)", "x0,x1 if r0(x1,x0)"},
	} {
		if u := readUnion(t, texts...); !impl.IsUnion(pairSchema, u) {
			t.Errorf("%s: %v is no union", why, u)
		}
	}
	for why, texts := range map[string][]string{
		"no queries":                        {},
		"four queries":                      {"x0 if r1(x0)", "x0 if r1(x0)", "x0 if r1(x0)", "x0 if r1(x0)"},
		"the second head is shorter":        {"x0 if r1(x0)", "yes if r1(x0)"},
		"the second head is longer":         {"x0 if r1(x0)", "x0,x0 if r1(x0)"},
		"the third head is longer":          {"x0 if r1(x0)", "x1 if r1(x1)", "x0,x1 if r0(x0,x1)"},
		"the first head is shorter":         {"yes if r1(x0)", "x1 if r1(x1)", "x0 if r0(x0,x1)"},
		"different heads without variables": {"yes if r1(1)", "yes if r1(2)", "x0 if r0(2,x0)"},
	} {
		if u := readUnion(t, texts...); impl.IsUnion(pairSchema, u) {
			t.Errorf("%s: %v is a union", why, u)
		}
	}
}

func TestUnionAnswers(t *testing.T) {
	d := callFacts()
	for why, c := range map[string]struct {
		u    []string
		want string
	}{
		"one query":                         {[]string{"x0 if r1(x0)"}, "(2) (7)"},
		"the answers of both":               {[]string{"x0 if r0(1,x0)", "x0 if r1(x0)"}, "(2) (3) (7)"},
		"in ascending order":                {[]string{"x0 if r1(x0)", "x0 if r0(x0,2)", "x0 if r0(6,x0)"}, "(1) (2) (4) (5) (7)"},
		"one that the other one has":        {[]string{"x0 if r0(1,x0) and r1(x0)", "x0 if r0(1,x0)"}, "(2) (3)"},
		"the same answers":                  {[]string{"x0 if r1(x0)", "x1 if r1(x1)"}, "(2) (7)"},
		"one has none":                      {[]string{"x0 if r0(2,x0)", "x0 if r0(6,x0)"}, "(5)"},
		"none has any":                      {[]string{"x0 if r0(2,x0)", "x0 if r0(3,x0)"}, "none"},
		"heads without variables":           {[]string{"yes if r1(3)", "yes if r1(2)"}, "()"},
		"heads without variables, two hold": {[]string{"yes if r1(7)", "yes if r1(2)"}, "()"},
		"heads without variables, no facts": {[]string{"yes if r1(3)", "yes if r1(4)"}, "none"},
		"other variables, other order":      {[]string{"x0,x1 if r0(x0,x1) and r1(x1)", "x0,x1 if r0(x1,x0) and r1(x0)"}, "(1,2) (2,1) (2,4) (2,5) (4,2) (5,2)"},
		"three values":                      {[]string{"x0,x0,x1 if r0(x0,x1) and r1(x1)", "x1,x1,x1 if r1(x1)"}, "(1,1,2) (2,2,2) (4,4,2) (5,5,2) (7,7,7)"},
	} {
		u := readUnion(t, c.u...)
		if got := impl.UnionAnswers(pairSchema, u, d); impl.FormatTuples(got) != c.want {
			t.Errorf("%s: the answers of %s are %v, want %s", why, impl.FormatUnion(u), got, c.want)
		}
		if got := impl.UnionAnswers(pairSchema, u, nil); len(got) > 0 {
			t.Errorf("%s: the answers on nothing are %v", why, got)
		}
	}
}

func TestContainedIn(t *testing.T) {
	for _, c := range []struct {
		q    string
		u    []string
		want bool
	}{
		{"x0 if r0(1,x0) and r1(x0)", []string{"x0 if r0(1,x0)", "x0 if r0(2,x0)"}, true},
		{"x0 if r0(1,x0) and r1(x0)", []string{"x0 if r0(2,x0)", "x0 if r1(x0)"}, true},
		{"x0 if r0(1,x0) and r1(x0)", []string{"x0 if r0(2,x0)", "x0 if r0(3,x0)", "x1 if r0(x0,x1)"}, true},
		{"x0 if r0(1,x0)", []string{"x0 if r0(1,x0) and r1(x0)", "x0 if r0(2,x0)"}, false},
		{"x0 if r0(1,x0)", []string{"x1 if r0(1,x1)"}, true},
		{"x0 if r0(1,x0)", nil, false},
		// The answers are those of the list together, but no single query has them all.
		{"yes if r0(x0,x1)", []string{"yes if r0(x0,x0)", "yes if r0(x0,x1) and r0(x1,x0)"}, false},
		// The list need not be a union.
		{"x0 if r1(x0)", []string{"yes if r1(x0)", "x0,x0 if r1(x0)"}, false},
		{"x0 if r1(x0)", []string{"yes if r1(x0)", "x1 if r1(x1)"}, true},
		{"x0 if r1(x0)", []string{"x0 if r0(1,x0)", "x0 if r0(2,x0)", "x0 if r0(3,x0)", "x0 if r0(4,x0)", "x3 if r1(x3)"}, true},
	} {
		q, u := readPairQuery(t, c.q), readUnion(t, c.u...)
		if got := impl.ContainedIn(pairSchema, q, u); got != c.want {
			t.Errorf("%s in %v is %v", c.q, c.u, got)
		}
	}
	for why, c := range invalidQueries() {
		if impl.ContainedIn(c.s, c.q, []impl.Query{c.q}) {
			t.Errorf("%s: %v is contained in itself", why, c.q)
		}
		valid := query([]int{10}, atom(1, 10))
		if impl.IsQuery(c.s, valid) && !impl.ContainedIn(c.s, valid, []impl.Query{c.q, valid}) {
			t.Errorf("%s: %v is not contained in itself, because of another query", why, valid)
		}
	}
}

func TestSameUnions(t *testing.T) {
	for why, c := range map[string]struct {
		a, b []string
		want bool
	}{
		"the same":                       {[]string{"x0 if r1(x0)", "x0 if r0(1,x0)"}, []string{"x0 if r1(x0)", "x0 if r0(1,x0)"}, true},
		"in another order":               {[]string{"x0 if r1(x0)", "x0 if r0(1,x0)"}, []string{"x0 if r0(1,x0)", "x0 if r1(x0)"}, true},
		"other variables":                {[]string{"x0 if r0(x0,x1)"}, []string{"x5 if r0(x5,x2)"}, true},
		"one that is contained":          {[]string{"x0 if r0(1,x0) and r1(x0)", "x0 if r0(1,x0)"}, []string{"x0 if r0(1,x0)"}, true},
		"two that are contained":         {[]string{"yes if r1(x0)"}, []string{"yes if r1(1)", "yes if r1(x0)", "yes if r1(x3) and r1(2)"}, true},
		"different ones are contained":   {[]string{"yes if r1(x0)", "yes if r1(7)"}, []string{"yes if r1(1)", "yes if r1(x0)"}, true},
		"an atom more":                   {[]string{"x0 if r0(x1,x0)"}, []string{"x0 if r0(x1,x0) and r0(x2,x0)"}, true},
		"one more":                       {[]string{"x0 if r1(x0)", "x0 if r0(1,x0)"}, []string{"x0 if r1(x0)"}, false},
		"one is contained, another not":  {[]string{"x0 if r1(x0)", "x0 if r0(1,x0)"}, []string{"x0 if r1(x0)", "x0 if r0(x1,x0)"}, false},
		"different ones":                 {[]string{"x0 if r0(2,x0)"}, []string{"x0 if r0(1,x0)"}, false},
		"different heads":                {[]string{"yes if r1(x0)"}, []string{"x0 if r1(x0)"}, false},
		"the last ones are not the same": {[]string{"x0 if r1(x0)", "x0 if r0(3,x0)", "x0 if r0(2,x0)"}, []string{"x0 if r1(x0)", "x0 if r0(3,x0)", "x0 if r0(1,x0)"}, false},
	} {
		a, b := readUnion(t, c.a...), readUnion(t, c.b...)
		if impl.SameUnions(pairSchema, a, b) != c.want || impl.SameUnions(pairSchema, b, a) != c.want {
			t.Errorf("%s: %v and %v are not %v", why, c.a, c.b, c.want)
		}
		if !impl.SameUnions(pairSchema, a, a) || !impl.SameUnions(pairSchema, b, b) {
			t.Errorf("%s: not the same as itself", why)
		}
	}
}

// Parts that are contained in each other, in each order.
func TestMinimalUnion(t *testing.T) {
	for why, c := range map[string]struct {
		u, want []string
	}{
		"one query":                       {[]string{"x0 if r1(x0)"}, []string{"x0 if r1(x0)"}},
		"none is contained":               {[]string{"x0 if r1(x0)", "x0 if r0(1,x0)", "x0 if r0(2,x0)"}, []string{"x0 if r1(x0)", "x0 if r0(1,x0)", "x0 if r0(2,x0)"}},
		"the first in the second":         {[]string{"x0 if r0(1,x0) and r1(x0)", "x0 if r0(1,x0)"}, []string{"x0 if r0(1,x0)"}},
		"the second in the first":         {[]string{"x0 if r0(1,x0)", "x0 if r0(1,x0) and r1(x0)"}, []string{"x0 if r0(1,x0)"}},
		"the first in both":               {[]string{"x0 if r0(1,x0) and r1(x0)", "x0 if r0(1,x0)", "x0 if r1(x0)"}, []string{"x0 if r0(1,x0)", "x0 if r1(x0)"}},
		"the second in both":              {[]string{"x0 if r0(1,x0)", "x0 if r0(1,x0) and r1(x0)", "x0 if r1(x0)"}, []string{"x0 if r0(1,x0)", "x0 if r1(x0)"}},
		"the last in both":                {[]string{"x0 if r1(x0)", "x0 if r0(1,x0)", "x0 if r0(1,x0) and r1(x0)"}, []string{"x0 if r1(x0)", "x0 if r0(1,x0)"}},
		"two in the second":               {[]string{"yes if r1(1)", "yes if r1(x0)", "yes if r1(2)"}, []string{"yes if r1(x0)"}},
		"the same twice":                  {[]string{"x0 if r1(x0)", "x0 if r1(x0)"}, []string{"x0 if r1(x0)"}},
		"the same, the last is left":      {[]string{"x0 if r1(x0)", "x1 if r1(x1)"}, []string{"x1 if r1(x1)"}},
		"three that are in each other":    {[]string{"x0 if r0(x0,x1)", "x1 if r0(x1,x0)", "x2 if r0(x2,x3) and r0(x2,x4)"}, []string{"x2 if r0(x2,x3) and r0(x2,x4)"}},
		"two of three in each other":      {[]string{"x0 if r0(x0,x1)", "x0 if r1(x0)", "x1 if r0(x1,x0)"}, []string{"x0 if r1(x0)", "x1 if r0(x1,x0)"}},
		"in each other, before another":   {[]string{"x0 if r1(x0)", "x1 if r1(x1)", "x0 if r0(x0,x1)"}, []string{"x1 if r1(x1)", "x0 if r0(x0,x1)"}},
		"in each other, and one in both":  {[]string{"x0 if r0(x0,x1)", "x0 if r0(x0,x0)", "x1 if r0(x1,x0)"}, []string{"x1 if r0(x1,x0)"}},
		"each one in the next":            {[]string{"yes if r0(1,1)", "yes if r0(x0,x0)", "yes if r0(x0,x1)"}, []string{"yes if r0(x0,x1)"}},
		"each one in the one before":      {[]string{"yes if r0(x0,x1)", "yes if r0(x0,x0)", "yes if r0(1,1)"}, []string{"yes if r0(x0,x1)"}},
		"queries are left as they are":    {[]string{"x0 if r0(x0,x1) and r0(x0,x2)", "x0 if r0(x0,5)"}, []string{"x0 if r0(x0,x1) and r0(x0,x2)"}},
		"contained in both only together": {[]string{"x0,x1 if r1(x0) and r1(x1)", "x0,x1 if r0(x0,x1)", "x0,x1 if r0(x1,x0)"}, []string{"x0,x1 if r1(x0) and r1(x1)", "x0,x1 if r0(x0,x1)", "x0,x1 if r0(x1,x0)"}},
	} {
		u, want := readUnion(t, c.u...), readUnion(t, c.want...)
		got := impl.MinimalUnion(pairSchema, u)
		if !equalUnions(got, want) || !impl.SameUnions(pairSchema, u, got) || !equalUnions(impl.MinimalUnion(pairSchema, got), got) {
			t.Errorf("%s: the minimal union of %v is %s, want %v", why, c.u, impl.FormatUnion(got), c.want)
		}
	}
}

// Minimal unions and what is contained are compared with a trial of all ways to put terms into queries.
func TestUnionsByHand(t *testing.T) {
	lists := append(smallFacts(), callFacts())
	sizes, same := map[[2]int]int{}, map[bool]int{}
	eachUnionQuestion(func(n int, _ []impl.Method, u []impl.Query) {
		if !impl.IsUnion(pairSchema, u) {
			t.Fatalf("%s is no union", impl.FormatUnion(u))
		}
		minimal := impl.MinimalUnion(pairSchema, u)
		if want := minimalByHand(u); !equalUnions(minimal, want) {
			t.Fatalf("the minimal union of %s is %s, want %s", impl.FormatUnion(u), impl.FormatUnion(minimal), impl.FormatUnion(want))
		}
		sizes[[2]int{len(u), len(minimal)}]++
		for _, k := range []int{n/6*6 + (n+1+n/6%5)%6, n + 6} {
			other := someUnion(k)
			want := true
			for _, q := range u {
				isIn := isInByHand(q, other)
				if impl.ContainedIn(pairSchema, q, other) != isIn {
					t.Fatalf("%s in %s is not %v", impl.FormatQuery(q), impl.FormatUnion(other), isIn)
				}
				want = want && isIn
			}
			for _, q := range other {
				want = want && isInByHand(q, u)
			}
			if impl.SameUnions(pairSchema, u, other) != want || impl.SameUnions(pairSchema, other, u) != want {
				t.Fatalf("%s and %s are not the same: %v", impl.FormatUnion(u), impl.FormatUnion(other), want)
			}
			same[want]++
		}
		if !impl.SameUnions(pairSchema, minimal, u) {
			t.Fatalf("%s is not the same as %s", impl.FormatUnion(minimal), impl.FormatUnion(u))
		}
		facts := lists[n%len(lists)]
		want := unionByTrial(u, facts)
		if got := impl.UnionAnswers(pairSchema, u, facts); !equalTuples(got, want) || !equalTuples(impl.UnionAnswers(pairSchema, minimal, facts), want) {
			t.Fatalf("the answers of %s on %v are %v, want %v", impl.FormatUnion(u), facts, got, want)
		}
	})
	for _, size := range [][2]int{{1, 1}, {2, 1}, {2, 2}, {3, 1}, {3, 2}, {3, 3}} {
		if sizes[size] < 50 {
			t.Errorf("only %d unions of %d queries with %d left", sizes[size], size[0], size[1])
		}
	}
	if same[true] < 1000 || same[false] < 1000 {
		t.Errorf("unions that are the same or not are %v", same)
	}
}

func TestIsFeasibleUnion(t *testing.T) {
	for why, c := range map[string]struct {
		u    []string
		want bool
	}{
		"one query":                        {[]string{"x0 if r0(1,x0)"}, true},
		"two queries":                      {[]string{"x0 if r0(1,x0)", "x0 if r1(x0)"}, true},
		"three queries":                    {[]string{"x1 if r0(1,x1)", "x0 if r1(x0)", "x1 if r1(x0) and r0(x0,x1)"}, true},
		"a query without a part":           {[]string{"x0 if r0(x0,x1)"}, false},
		"the second without a part":        {[]string{"x0 if r1(x0)", "x0 if r0(x0,x1)"}, false},
		"the first without a part":         {[]string{"x0 if r0(x0,x1)", "x0 if r1(x0)"}, false},
		"a part that has more answers":     {[]string{"x0 if r1(x0) and r0(x1,x0)"}, false},
		"the last part has more answers":   {[]string{"x0 if r0(1,x0)", "x0 if r0(2,x0)", "x0 if r1(x0) and r0(x1,x0)"}, false},
		"the other one has all of these":   {[]string{"x0 if r1(x0) and r0(x1,x0)", "x0 if r1(x0)"}, true},
		"the one before has all of these":  {[]string{"x0 if r1(x0)", "x0 if r1(x0) and r0(x1,x0)"}, true},
		"another one has none of these":    {[]string{"x0 if r0(1,x0)", "x0 if r1(x0) and r0(x1,x0)"}, false},
		"one without a part is contained":  {[]string{"x0 if r0(x1,x0) and r0(x0,x1)", "x0 if r1(x0)", "x0 if r0(x1,x0)"}, false},
		"it is contained in a feasible":    {[]string{"yes if r0(x0,x0) and r1(x0)", "yes if r1(x0)"}, true},
		"a core that is feasible":          {[]string{"x1 if r0(1,x1) and r0(x0,x1)", "x0 if r1(x0)"}, true},
		"a core that is not":               {[]string{"x1 if r0(1,x1) and r0(x0,x1) and r0(x0,2)", "x0 if r1(x0)"}, false},
		"the same infeasible query twice":  {[]string{"x0 if r0(x0,x1)", "x0 if r0(x0,x1)"}, false},
		"the same feasible query twice":    {[]string{"x0 if r1(x0)", "x1 if r1(x1)"}, true},
		"no order, but the same as one":    {[]string{"x0 if r0(x1,x0) and r0(1,x0)", "x0 if r0(1,x0)"}, true},
		"a method with a limit only":       {[]string{"x0 if r0(x0,2)", "x0 if r1(x0)"}, false},
		"heads without variables":          {[]string{"yes if r0(1,2)", "yes if r1(3)"}, true},
		"heads without variables, no part": {[]string{"yes if r0(x0,1)", "yes if r1(3)"}, false},
		"the part of a contained query":    {[]string{"yes if r0(x0,1) and r1(x2)", "yes if r0(x0,1)"}, false},
	} {
		u := readUnion(t, c.u...)
		if got := impl.IsFeasibleUnion(pairSchema, orderCalls(), u); got != c.want {
			t.Errorf("%s: %s is feasible: %v", why, impl.FormatUnion(u), got)
		}
		if len(u) == 1 && impl.IsFeasible(pairSchema, orderCalls(), u[0]) != c.want {
			t.Errorf("%s: the query and the union are not the same", why)
		}
		if impl.IsFeasibleUnion(pairSchema, nil, u) {
			t.Errorf("%s: %s is feasible without methods", why, impl.FormatUnion(u))
		}
	}
}

func TestUnionByParts(t *testing.T) {
	d := callFacts()
	limited, all := []impl.Method{method(0, []int{0}, 1, 0, 99), method(1, nil, 1, 0, 99)}, []impl.Method{method(0, []int{0}, 0, 9, 1), method(1, nil, 0, 9, 1)}
	for why, c := range map[string]struct {
		l              []impl.Method
		u              []string
		byParts, exact string
	}{
		"one query":                          {orderCalls(), []string{"x0 if r0(1,x0)"}, "(2) (3)", "(2) (3)"},
		"two queries":                        {orderCalls(), []string{"x0 if r0(1,x0)", "x0 if r1(x0)"}, "(2) (3) (7)", "(2) (3) (7)"},
		"in ascending order, each once":      {orderCalls(), []string{"x0 if r1(x0)", "x0 if r0(6,x0)", "x0 if r0(5,x0)"}, "(2) (5) (7)", "(2) (5) (7)"},
		"a part stands for the query":        {orderCalls(), []string{"x1 if r0(1,x1) and r0(x0,x1)", "x0 if r0(6,x0)"}, "(2) (3) (5)", "(2) (3) (5)"},
		"a part has more than the query":     {orderCalls(), []string{"x0 if r0(1,x0) and r0(x0,x1)", "x0 if r0(6,x0) and r0(x1,1)"}, "(5)", "none"},
		"one has no part":                    {orderCalls(), []string{"x0 if r0(x0,x1)", "x0 if r1(x0)"}, "(2) (7)", "(1) (2) (4) (5) (6) (7)"},
		"the last one has no part":           {orderCalls(), []string{"x0 if r1(x0)", "x0 if r0(x0,3)"}, "(2) (7)", "(1) (2) (7)"},
		"none has a part":                    {orderCalls(), []string{"x0 if r0(x0,x1)", "x0 if r0(x0,2)"}, "none", "(1) (4) (5) (6)"},
		"the part of a contained one":        {orderCalls(), []string{"x0 if r1(x0) and r0(x0,x1) and r0(x2,x1)", "x0 if r0(x0,x1)"}, "none", "(1) (4) (5) (6)"},
		"the part of one that is left":       {orderCalls(), []string{"x0 if r1(x0) and r0(x1,9)", "x0 if r0(6,x0)"}, "(2) (5) (7)", "(5)"},
		"heads without variables":            {orderCalls(), []string{"yes if r0(1,2)", "yes if r1(3)"}, "()", "()"},
		"heads without variables, no answer": {orderCalls(), []string{"yes if r0(1,4)", "yes if r1(3)"}, "none", "none"},
		"exact methods behind others":        {append(slices.Clone(limited), all...), []string{"x0 if r0(1,x0)", "x0 if r1(x0)"}, "(2) (3) (7)", "(2) (3) (7)"},
		"exact methods before others":        {append(slices.Clone(all), limited...), []string{"x0 if r0(1,x0)", "x0 if r1(x0)"}, "(2) (3) (7)", "(2) (3) (7)"},
		"only one relation has an exact one": {append(slices.Clone(limited), all[1]), []string{"x0 if r0(1,x0)", "x0 if r1(x0)"}, "(2) (7)", "(2) (3) (7)"},
		"only methods with a limit":          {limited, []string{"x0 if r0(1,x0)", "x0 if r1(x0)"}, "none", "(2) (3) (7)"},
		"no methods":                         {nil, []string{"x0 if r0(1,x0)", "x0 if r1(x0)"}, "none", "(2) (3) (7)"},
		"a quota that is not enough":         {all, []string{"x0,x1 if r1(x0) and r0(x0,x1)", "x0,x1 if r0(1,x0) and r0(4,x1)", "x0,x1 if r0(5,x0) and r0(6,x1)"}, "(2,2) (2,5) (3,2)", "(2,2) (2,5) (3,2)"},
		"no answers":                         {all, []string{"x0 if r0(2,x0)", "x0 if r0(3,x0)"}, "none", "none"},
	} {
		u := readUnion(t, c.u...)
		got, exact := impl.UnionByParts(pairSchema, c.l, u, d), impl.UnionAnswers(pairSchema, u, d)
		if impl.FormatTuples(got) != c.byParts || impl.FormatTuples(exact) != c.exact {
			t.Errorf("%s: the answers of %s are %v by parts and %v, want %s and %s", why, impl.FormatUnion(u), got, exact, c.byParts, c.exact)
		}
		if c.byParts != c.exact && impl.IsFeasibleUnion(pairSchema, c.l, u) {
			t.Errorf("%s: %s is feasible", why, impl.FormatUnion(u))
		}
		if got := impl.UnionByParts(pairSchema, c.l, u, nil); len(got) > 0 {
			t.Errorf("%s: the answers on nothing are %v", why, got)
		}
	}
}

// A union is feasible exactly if there is a plan for it, and the plan gives exactly the answers. For every other union, two sets of facts show that there is none.
func TestUnionIsFeasibleExactlyIfThereIsAPlan(t *testing.T) {
	lists := append(smallFacts(), callFacts())
	counts, answered := map[bool]int{}, 0
	eachUnionQuestion(func(n int, l []impl.Method, u []impl.Query) {
		isFeasible := impl.IsFeasibleUnion(pairSchema, l, u)
		if isFeasible != hasUnionPlanByHand(l, u) {
			t.Fatalf("%v: %s is feasible: %v", l, impl.FormatUnion(u), isFeasible)
		}
		counts[isFeasible]++
		minimal := minimalByHand(u)
		if !isFeasible && n%3 == 0 {
			isShown := false
			for i := range minimal {
				isShown = isShown || isShownInfeasible(l, minimal, i)
			}
			if !isShown {
				t.Fatalf("%v: nothing shows that %s is not feasible", l, impl.FormatUnion(u))
			}
		}
		for i := range 2 {
			facts := lists[(n/3+i)%len(lists)]
			got, want := impl.UnionByParts(pairSchema, l, u, facts), unionByTrial(partsByHand(l, minimal), facts)
			if !equalTuples(got, want) || isFeasible && !equalTuples(got, impl.UnionAnswers(pairSchema, u, facts)) {
				t.Fatalf("%v: the answers of %s on %v by parts are %v, want %v", l, impl.FormatUnion(u), facts, got, want)
			}
			if isFeasible && len(got) > 0 {
				answered++
			}
		}
	})
	if counts[true] < 500 || counts[false] < 1000 || answered < 500 {
		t.Errorf("feasible or not are %v, %d times with answers", counts, answered)
	}
}

// Ten terms are the most that a query can have if it is to be contained in any.
func TestUnionsAtTheLimits(t *testing.T) {
	s := []int{3}
	free, first := []impl.Method{method(0, nil, 0, 99, 99)}, []impl.Method{method(0, []int{0}, 0, 99, 99)}
	ten, eleven := manyTerms(1, 8), manyTerms(1, 8, 3)
	wide := query([]int{12}, atom(0, 10, 11, 12))
	if got := impl.MinimalUnion(s, []impl.Query{ten, wide, ten}); !equalUnions(got, []impl.Query{wide}) || !impl.IsFeasibleUnion(s, free, []impl.Query{ten, wide}) {
		t.Errorf("the minimal union of ten terms is %v", got)
	}
	for _, u := range [][]impl.Query{{eleven}, {eleven, eleven}, {eleven, wide}, {wide, eleven}} {
		if got := impl.MinimalUnion(s, u); !equalUnions(got, u) || !impl.IsUnion(s, u) {
			t.Errorf("the minimal union of eleven terms is %v, want %v", got, u)
		}
		if impl.SameUnions(s, u, u) || impl.ContainedIn(s, eleven, u) || impl.IsFeasibleUnion(s, free, u) {
			t.Errorf("eleven terms in %v", u)
		}
		all := impl.UnionAnswers(s, u, triples())
		if got := impl.UnionByParts(s, free, u, triples()); !equalTuples(got, all) {
			t.Errorf("the answers of %v by parts are %v, want %v", u, got, all)
		}
	}
	// No part of this query is contained in it, but the part that can be called is contained in the other one.
	large := query([]int{10}, atom(0, 1, 2, 10), atom(0, 1, 11, 12), atom(0, 13, 14, 15), atom(0, 16, 17, 3))
	small := query([]int{10}, atom(0, 1, 11, 10))
	u := []impl.Query{large, small}
	if impl.IsFeasible(s, first, large) || !impl.IsFeasible(s, first, small) || !equalUnions(impl.MinimalUnion(s, u), u) || !impl.IsFeasibleUnion(s, first, u) {
		t.Error("eleven terms of which a part is contained in another query")
	}
	d := []impl.Fact{fact(0, 1, 2, 5), fact(0, 1, 2, 7), fact(0, 1, 3, 8), fact(0, 4, 4, 3)}
	got := impl.UnionByParts(s, first, u, d)
	if want := impl.UnionAnswers(s, u, d); impl.FormatTuples(got) != "(5) (7) (8)" || !equalTuples(got, want) {
		t.Errorf("the answers are %v, want %v", got, want)
	}
	// As many answers as there can be, each in all three queries.
	var d10 []impl.Fact
	for v := range 10 {
		d10 = append(d10, fact(0, v))
	}
	cube := query([]int{10, 11, 12}, atom(0, 10), atom(0, 11), atom(0, 12))
	all := []impl.Query{cube, query([]int{10, 10, 12}, atom(0, 10), atom(0, 12)), query([]int{12, 11, 10}, cube.Atoms...)}
	one := []impl.Method{method(0, nil, 0, 0, 1)}
	answers := impl.UnionAnswers([]int{1}, all, d10)
	if len(answers) != 1000 || !slices.Equal(answers[123], []int{1, 2, 3}) || !equalTuples(impl.UnionByParts([]int{1}, one, all, d10), answers) {
		t.Errorf("%d answers", len(answers))
	}
}

// checkNoUnion checks what all functions return for a union that is not valid.
func checkNoUnion(t *testing.T, why string, s []int, l []impl.Method, u []impl.Query) {
	t.Helper()
	if impl.IsUnion(s, u) || impl.IsFeasibleUnion(s, l, u) {
		t.Errorf("%s: %v is a union", why, u)
	}
	if got := impl.MinimalUnion(s, u); !equalUnions(got, u) {
		t.Errorf("%s: the minimal union of %v is %v", why, u, got)
	}
	for _, other := range [][]impl.Query{u, nil, {query([]int{10}, atom(1, 10))}, {query(nil, atom(1, 10))}, {query([]int{10, 11}, atom(0, 10, 11))}} {
		if impl.SameUnions(s, u, other) || impl.SameUnions(s, other, u) {
			t.Errorf("%s: %v is the same as %v", why, u, other)
		}
	}
	for _, facts := range [][]impl.Fact{nil, callFacts(), {fact(1, 2)}} {
		if got := impl.UnionAnswers(s, u, facts); len(got) > 0 {
			t.Errorf("%s: the answers are %v", why, got)
		}
		if got := impl.UnionByParts(s, l, u, facts); len(got) > 0 {
			t.Errorf("%s: the answers by parts are %v", why, got)
		}
	}
}

func TestUnionsOfInvalid(t *testing.T) {
	l := orderCalls()
	a, b, c := query([]int{10}, atom(0, 1, 10)), query([]int{10}, atom(1, 10)), query([]int{10}, atom(0, 1, 10), atom(1, 10))
	for why, u := range map[string][]impl.Query{
		"no queries":                      nil,
		"four queries":                    {c, a, b, c},
		"many queries":                    slices.Repeat([]impl.Query{b}, 1000),
		"different heads":                 {b, query(nil, atom(1, 2))},
		"different heads, one is in both": {b, b, query([]int{10, 10}, atom(1, 10))},
	} {
		checkNoUnion(t, why, pairSchema, l, u)
	}
	for why, spoiled := range invalidQueries() {
		for _, u := range [][]impl.Query{{spoiled.q}, {spoiled.q, b}, {b, spoiled.q}, {b, c, spoiled.q}, {spoiled.q, spoiled.q}} {
			checkNoUnion(t, why, spoiled.s, l, u)
		}
	}
}

// Other arguments that are not valid do not matter for the functions that do not have them.
func TestUnionsOfInvalidMethodsAndFacts(t *testing.T) {
	u := []impl.Query{query([]int{10}, atom(0, 1, 10), atom(1, 10)), query([]int{10}, atom(0, 1, 10)), query([]int{10}, atom(1, 10))}
	for why, spoil := range invalidSources() {
		c := someReach()
		spoil(&c)
		if impl.IsFeasibleUnion(c.s, c.l, u) {
			t.Errorf("%s: feasible", why)
		}
		for _, facts := range [][]impl.Fact{nil, callFacts(), {fact(1, 2)}} {
			if got := impl.UnionByParts(c.s, c.l, u, facts); len(got) > 0 {
				t.Errorf("%s: the answers by parts are %v", why, got)
			}
		}
	}
	// Methods that are not used must be valid too, and there must not be too many with them.
	limited := method(0, []int{1}, 1, 1, 2)
	for why, l := range map[string][]impl.Method{
		"a limit that is too great":     append(orderCalls(), method(0, []int{0}, 10, 0, 1)),
		"too many methods with a limit": append(orderCalls(), limited, limited, limited),
	} {
		if got := impl.UnionByParts(pairSchema, l, u, callFacts()); len(got) > 0 || impl.IsFeasibleUnion(pairSchema, l, u) {
			t.Errorf("%s: the answers by parts are %v", why, got)
		}
	}
	if !impl.IsFeasibleUnion(pairSchema, append(orderCalls(), limited, limited), u) {
		t.Error("five methods are not too many")
	}
	for why, facts := range invalidFacts() {
		for _, union := range [][]impl.Query{u, u[1:], u[2:], {query(nil, atom(1, 2))}, {query([]int{10}, atom(0, 2, 10)), u[2]}} {
			if got := impl.UnionAnswers(pairSchema, union, facts); len(got) > 0 {
				t.Errorf("%s: the answers are %v", why, got)
			}
			if got := impl.UnionByParts(pairSchema, orderCalls(), union, facts); len(got) > 0 {
				t.Errorf("%s: the answers by parts are %v", why, got)
			}
		}
	}
	one, free := []impl.Query{query([]int{10}, atom(0, 10, 11, 12))}, []impl.Method{method(0, nil, 0, 0, 1)}
	for count, want := range map[int]bool{24: true, 25: false} {
		facts := append(triples(), fact(0, 9, 9, 9))[:count]
		answers, byParts := impl.UnionAnswers([]int{3}, one, facts), impl.UnionByParts([]int{3}, free, one, facts)
		if (len(answers) > 0) != want || !equalTuples(answers, byParts) {
			t.Errorf("the answers on %d facts are %v and %v", count, answers, byParts)
		}
	}
}

func TestFormatUnion(t *testing.T) {
	a, b, c := query([]int{10}, atom(0, 1, 10), atom(1, 10)), query([]int{11, 10}, atom(0, 10, 11)), query(nil, atom(2, 3, 17, 9))
	for want, u := range map[string][]impl.Query{
		"":                          nil,
		"x0 if r0(1,x0) and r1(x0)": {a},
		"yes if r2(3,x7,9)":         {c},
		"x1,x0 if r0(x0,x1) or x1,x0 if r0(x0,x1)":                                                 {b, b},
		"x0 if r0(1,x0) and r1(x0) or x1,x0 if r0(x0,x1) or yes if r2(3,x7,9)":                     {a, b, c},
		"yes if r2(3,x7,9) or x1,x0 if r0(x0,x1) or x1,x0 if r0(x0,x1) or yes if r2(3,x7,9)":       {c, b, b, c},
		"yes if r2(3,x7,9) or yes if r2(3,x7,9) or x0 if r0(1,x0) and r1(x0) or yes if r2(3,x7,9)": {c, c, a, c},
	} {
		if got := impl.FormatUnion(u); got != want {
			t.Errorf("FormatUnion(%v) = %s, want %s", u, got, want)
		}
	}
	for why, q := range map[string]impl.Query{
		"no atoms":                   {},
		"a head, no atoms":           query([]int{10}),
		"too many atoms":             query(nil, atom(1, 1), atom(1, 1), atom(1, 1), atom(1, 1), atom(1, 1)),
		"a head of another variable": query([]int{11}, atom(1, 10)),
		"a head that is too long":    query([]int{10, 10, 10, 10}, atom(1, 10)),
		"a relation beyond all":      query(nil, atom(3, 1)),
		"a number that is no term":   query(nil, atom(1, 18)),
		"a negative number":          query(nil, atom(1, -1)),
		"an atom without terms":      query(nil, atom(1)),
	} {
		for _, u := range [][]impl.Query{{q}, {q, a}, {a, q}, {a, q, b}, {a, b, c, a, q}, {q, q}} {
			if got := impl.FormatUnion(u); got != "" {
				t.Errorf("%s: FormatUnion(%v) = %s", why, u, got)
			}
		}
	}
}

// queryLists has the lists of numbers of some queries.
func queryLists(u []impl.Query) [][]int {
	var lists [][]int
	for _, q := range u {
		lists = append(lists, q.Head)
		for _, a := range q.Atoms {
			lists = append(lists, a.Terms)
		}
	}
	return lists
}

// All lists have spare capacity with other numbers in it, and the first two queries share their memory.
func TestUnionsLeaveArguments(t *testing.T) {
	numbers := []int{0, 77, 1, 10, 77, 10, 77, 10, 77, 1, 2, 77, 4, 2, 77, 2, 77}
	schema := []int{2, 1, 77}
	methods := []impl.Method{method(0, numbers[0:1], 0, 2, 5), method(1, nil, 0, 1, 9), method(7, nil, 7, 7, 7)}
	atoms := []impl.Atom{atom(0, numbers[2:4]...), atom(1, numbers[5:6]...), atom(7, 7)}
	facts := []impl.Fact{fact(0, numbers[9:11]...), fact(0, numbers[12:14]...), fact(1, numbers[15:16]...), fact(9, 9)}
	u := []impl.Query{{Head: numbers[7:8], Atoms: atoms[:2]}, {Head: numbers[7:8], Atoms: atoms[:1]}, {Head: numbers[7:8], Atoms: atoms[1:2]}, query(nil, atom(7, 7))}
	numbersBefore, methodsBefore, atomsBefore, unionBefore, factsBefore := slices.Clone(numbers), slices.Clone(methods), copyQuery(query(nil, atoms...)).Atoms, copyUnion(u), deepCopy(facts)
	check := func(what string) {
		t.Helper()
		if !slices.Equal(numbers, numbersBefore) || !slices.Equal(schema, []int{2, 1, 77}) || !reflect.DeepEqual(methods, methodsBefore) || !reflect.DeepEqual(atoms, atomsBefore) || !equalUnions(u, unionBefore) || !reflect.DeepEqual(facts, factsBefore) {
			t.Errorf("after %s the arguments are %v, %v, %v, %v, %v and %v", what, schema, numbers, methods, atoms, u, facts)
		}
	}
	for range 2 {
		answers, byParts := impl.UnionAnswers(schema[:2], u[:3], facts[:3]), impl.UnionByParts(schema[:2], methods[:2], u[:3], facts[:3])
		minimal, unchanged, single := impl.MinimalUnion(schema[:2], u[:3]), impl.MinimalUnion(schema[:2], u[:4]), impl.MinimalUnion(schema[:2], u[:1])
		if !equalTuples(answers, [][]int{{2}}) || !equalTuples(byParts, answers) || !equalUnions(minimal, unionBefore[1:3]) || !equalUnions(unchanged, unionBefore) || !equalUnions(single, unionBefore[:1]) {
			t.Errorf("%v, %v, %v, %v and %v", answers, byParts, minimal, unchanged, single)
		}
		if !impl.IsUnion(schema[:2], u[:3]) || !impl.ContainedIn(schema[:2], u[0], u[1:3]) || !impl.SameUnions(schema[:2], u[:3], u[1:3]) || !impl.IsFeasibleUnion(schema[:2], methods[:2], u[:3]) || impl.FormatUnion(u[1:3]) != "x0 if r0(1,x0) or x0 if r1(x0)" {
			t.Error("checks")
		}
		check("the calls")
		for _, got := range [][]impl.Query{minimal, unchanged, single} {
			checkTuplesApart(t, queryLists(got))
			for i := range got {
				_ = append(got[i].Atoms, atom(-3))
				got[i].Atoms[0] = atom(-4)
			}
			for i := 1; i < len(got); i++ {
				if len(got[i].Atoms) > 1 && got[i].Atoms[1].Rel == -4 {
					t.Errorf("queries of the result share memory: %v", got)
				}
			}
			_ = append(got, impl.Query{})
			got[0] = impl.Query{}
		}
		checkTuplesApart(t, slices.Concat(answers, byParts))
		_, _ = append(answers, nil), append(byParts, nil)
		answers[0], byParts[0] = nil, nil
		check("a change of the results")
	}
}
