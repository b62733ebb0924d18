package tests

import (
	"math"
	"reflect"
	"slices"
	"testing"

	"loop.example/g01989/impl"
)

// pairSchema is the schema of the queries that are written as texts here.
var pairSchema = []int{2, 1}

func readPairQuery(t *testing.T, text string) impl.Query {
	t.Helper()
	q, ok := readQuery(pairSchema, text)
	if !ok {
		t.Fatalf("%s is no query", text)
	}
	return q
}

// hasTerm and constantsByHand go by the atoms alone.
func hasTerm(q impl.Query, term int) bool {
	return slices.ContainsFunc(q.Atoms, func(a impl.Atom) bool { return slices.Contains(a.Terms, term) })
}

func constantsByHand(q impl.Query) []int {
	var l []int
	for v := range 10 {
		if hasTerm(q, v) {
			l = append(l, v)
		}
	}
	return l
}

// valuesByHand keeps each term that has no value.
func valuesByHand(terms []int, values map[int]int) []int {
	l := slices.Clone(terms)
	for i, term := range terms {
		if v, hasValue := values[term]; hasValue {
			l[i] = v
		}
	}
	return l
}

// frozenByHand strikes out values of a list: the constants of the query, some others, and those that a variable got.
func frozenByHand(q impl.Query, others []int) ([]impl.Fact, map[int]int, bool) {
	free := []int{0, 1, 2, 3, 4, 5, 6, 7, 8, 9}
	free = slices.DeleteFunc(free, func(v int) bool { return hasTerm(q, v) || slices.Contains(others, v) })
	values := map[int]int{}
	for term := 10; term < 18; term++ {
		if !hasTerm(q, term) {
			continue
		}
		if len(free) == 0 {
			return nil, nil, false
		}
		values[term] = free[0]
		free = free[1:]
	}
	var facts []impl.Fact
	for _, a := range q.Atoms {
		facts = append(facts, fact(a.Rel, valuesByHand(a.Terms, values)...))
	}
	slices.SortFunc(facts, func(a, b impl.Fact) int {
		return slices.Compare(append([]int{a.Rel}, a.Values...), append([]int{b.Rel}, b.Values...))
	})
	return slices.CompactFunc(facts, func(a, b impl.Fact) bool { return equalFacts([]impl.Fact{a}, []impl.Fact{b}) }), values, true
}

// containedByHand uses no facts: it tries all ways to put terms of p in the place of the variables of q, so that the head and the atoms of q become those of p.
func containedByHand(p, q impl.Query) bool {
	_, _, isEnough := frozenByHand(p, constantsByHand(q))
	if !isEnough || len(p.Head) != len(q.Head) {
		return false
	}
	var terms, vars []int
	for term := range 18 {
		if hasTerm(p, term) {
			terms = append(terms, term)
		}
		if term >= 10 && hasTerm(q, term) {
			vars = append(vars, term)
		}
	}
	places := map[int]int{}
	var try func(vars []int) bool
	try = func(vars []int) bool {
		if len(vars) > 0 {
			return slices.ContainsFunc(terms, func(term int) bool {
				places[vars[0]] = term
				return try(vars[1:])
			})
		}
		for _, a := range q.Atoms {
			isPlaced := func(b impl.Atom) bool { return a.Rel == b.Rel && slices.Equal(valuesByHand(a.Terms, places), b.Terms) }
			if !slices.ContainsFunc(p.Atoms, isPlaced) {
				return false
			}
		}
		return slices.Equal(valuesByHand(q.Head, places), p.Head)
	}
	return try(vars)
}

// pairQueries has queries of one and two atoms with none or one head variable.
func pairQueries() []impl.Query {
	var atoms []impl.Atom
	terms := []int{0, 2, 10, 11}
	for _, term := range terms {
		atoms = append(atoms, atom(1, term))
		for _, other := range terms {
			atoms = append(atoms, atom(0, term, other))
		}
	}
	var all []impl.Query
	add := func(atoms ...impl.Atom) {
		all = append(all, query(nil, atoms...))
		if hasTerm(query(nil, atoms...), 10) {
			all = append(all, query([]int{10}, atoms...))
		}
	}
	for _, a := range atoms {
		add(a)
		for _, b := range atoms {
			add(a, b)
		}
	}
	return all
}

// manyTerms has eight variables and as many constants as are left of the twelve terms.
func manyTerms(constants ...int) impl.Query {
	terms := slices.Concat([]int{10, 11, 12, 13, 14, 15, 16, 17}, constants, []int{17, 17, 17, 17})
	return query([]int{12}, atom(0, terms[0:3]...), atom(0, terms[3:6]...), atom(0, terms[6:9]...), atom(0, terms[9:12]...))
}

func TestFreezeQuery(t *testing.T) {
	for why, c := range map[string]struct {
		q     impl.Query
		facts []impl.Fact
		b     impl.Binding
	}{
		"the document's query":         {query([]int{10}, atom(0, 1, 10), atom(1, 10)), []impl.Fact{fact(0, 1, 0), fact(1, 0)}, binding([]int{10}, []int{0})},
		"variables in ascending order": {query(nil, atom(0, 17, 12), atom(0, 10, 17)), []impl.Fact{fact(0, 0, 2), fact(0, 2, 1)}, binding([]int{10, 12, 17}, []int{0, 1, 2})},
		"constants between":            {query(nil, atom(0, 10, 1), atom(0, 11, 12), atom(0, 3, 3)), []impl.Fact{fact(0, 0, 1), fact(0, 2, 4), fact(0, 3, 3)}, binding([]int{10, 11, 12}, []int{0, 2, 4})},
		"a constant in a later atom":   {query(nil, atom(0, 10, 11), atom(1, 0)), []impl.Fact{fact(0, 1, 2), fact(1, 0)}, binding([]int{10, 11}, []int{1, 2})},
		"no variables":                 {query(nil, atom(1, 4), atom(0, 3, 4)), []impl.Fact{fact(0, 3, 4), fact(1, 4)}, impl.Binding{}},
		"the same atom twice":          {query(nil, atom(1, 15), atom(1, 15)), []impl.Fact{fact(1, 0)}, binding([]int{15}, []int{0})},
		"the head does not count":      {query([]int{17, 0, 16}, atom(1, 15)), []impl.Fact{fact(1, 0)}, binding([]int{15}, []int{0})},
		"ten terms":                    {manyTerms(1, 8), []impl.Fact{fact(0, 0, 2, 3), fact(0, 4, 5, 6), fact(0, 7, 9, 1), fact(0, 8, 9, 9)}, binding([]int{10, 11, 12, 13, 14, 15, 16, 17}, []int{0, 2, 3, 4, 5, 6, 7, 9})},
		"ten constants":                {query(nil, atom(0, 0, 1, 2), atom(0, 3, 4, 5), atom(0, 6, 7, 8), atom(0, 9, 9, 9)), []impl.Fact{fact(0, 0, 1, 2), fact(0, 3, 4, 5), fact(0, 6, 7, 8), fact(0, 9, 9, 9)}, impl.Binding{}},
		"nothing":                      {impl.Query{}, nil, impl.Binding{}},
		"no atoms":                     {query([]int{10}), nil, impl.Binding{}},
		"terms that are not valid":     {query(nil, atom(-4, 18, 10, -1), atom(7), atom(9, 1, 2, 3, 4, math.MaxInt)), []impl.Fact{fact(-4, 18, 0, -1), fact(7), fact(9, 1, 2, 3, 4, math.MaxInt)}, binding([]int{10}, []int{0})},
		"relations of different size":  {query(nil, atom(0, 10, 11), atom(0, 11)), []impl.Fact{fact(0, 0, 1), fact(0, 1)}, binding([]int{10, 11}, []int{0, 1})},
	} {
		facts, b, ok := impl.FreezeQuery(c.q)
		if !ok || !equalFacts(facts, c.facts) || !equalBindings(b, c.b) {
			t.Errorf("%s: FreezeQuery(%v) = %v, %v, %v, want %v and %v", why, c.q, facts, b, ok, c.facts, c.b)
		}
	}
	for why, q := range map[string]impl.Query{
		"eleven terms":                   manyTerms(1, 8, 3),
		"twelve terms":                   manyTerms(9, 8, 7, 6),
		"ten constants and one variable": query(nil, atom(0, 0, 1, 2, 3, 4), atom(0, 5, 6, 7, 8, 9), atom(1, 10)),
	} {
		if facts, b, ok := impl.FreezeQuery(q); ok || len(facts) != 0 || !equalBindings(b, impl.Binding{}) {
			t.Errorf("%s: FreezeQuery(%v) = %v, %v, %v", why, q, facts, b, ok)
		}
	}
}

func TestFreezeQueryByHand(t *testing.T) {
	for _, q := range slices.Concat(smallQueries(), someQueries(), orderQueries()) {
		facts, b, ok := impl.FreezeQuery(q)
		wantFacts, values, wantOK := frozenByHand(q, nil)
		if ok != wantOK || !equalFacts(facts, wantFacts) || len(b.Vars) != len(values) || len(b.Values) != len(values) {
			t.Fatalf("FreezeQuery(%v) = %v, %v, %v, want %v and %v", q, facts, b, ok, wantFacts, values)
		}
		for i, v := range b.Vars {
			if value, isVar := values[v]; !isVar || value != b.Values[i] || i > 0 && b.Vars[i-1] >= v {
				t.Fatalf("FreezeQuery(%v) has the binding %v, want %v", q, b, values)
			}
		}
	}
}

func TestTupleOf(t *testing.T) {
	b := binding([]int{12, 10, 12, 3}, []int{4, -7, 5, 8})
	for _, c := range []struct {
		head []int
		b    impl.Binding
		want []int
	}{
		{nil, b, nil},
		{[]int{10}, b, []int{-7}},
		{[]int{12, 10}, b, []int{4, -7}},
		{[]int{10, 12, 10, 12, 10}, b, []int{-7, 4, -7, 4, -7}},
		{[]int{11, 12}, b, []int{-1, 4}},
		{[]int{3, 18, -5, 0}, b, []int{3, 18, -5, 0}},
		{[]int{10, 17}, impl.Binding{}, []int{-1, -1}},
		{[]int{10, 11}, binding([]int{10, 11}, []int{6}), []int{6, -1}},
	} {
		for _, atoms := range [][]impl.Atom{nil, {atom(0, 10)}, {atom(1, 16, 17), atom(-1)}} {
			if got := impl.TupleOf(query(c.head, atoms...), c.b); !slices.Equal(got, c.want) {
				t.Errorf("TupleOf(%v, %v) = %v, want %v", c.head, c.b, got, c.want)
			}
		}
	}
}

func TestFindMapping(t *testing.T) {
	none := impl.Binding{}
	facts := []impl.Fact{fact(0, 1, 2), fact(0, 1, 3), fact(0, 4, 2), fact(0, 5, 5), fact(1, 2)}
	for why, c := range map[string]struct {
		q     impl.Query
		facts []impl.Fact
		head  []int
		want  impl.Binding
	}{
		"the only one":                    {query([]int{10}, atom(0, 10, 11), atom(1, 11)), facts, []int{4}, binding([]int{10, 11}, []int{4, 2})},
		"the first of two":                {query([]int{10}, atom(0, 10, 11)), facts, []int{1}, binding([]int{10, 11}, []int{1, 2})},
		"the last fact for the first":     {query([]int{11}, atom(0, 10, 11)), facts, []int{5}, binding([]int{10, 11}, []int{5, 5})},
		"by the head of the last atom":    {query([]int{13}, atom(0, 10, 11), atom(0, 12, 13)), facts, []int{3}, binding([]int{10, 11, 12, 13}, []int{1, 2, 1, 3})},
		"variables in the atoms' order":   {query([]int{10, 17}, atom(0, 17, 12), atom(0, 17, 10)), facts, []int{3, 1}, binding([]int{17, 12, 10}, []int{1, 2, 3})},
		"a head without variables":        {query(nil, atom(0, 10, 10)), facts, nil, binding([]int{10}, []int{5})},
		"without variables":               {query(nil, atom(0, 1, 2)), facts, nil, none},
		"a variable twice in the head":    {query([]int{10, 10}, atom(1, 10)), facts, []int{2, 2}, binding([]int{10}, []int{2})},
		"facts that are not in order":     {query([]int{11}, atom(0, 11, 10)), []impl.Fact{fact(0, 1, 7), fact(0, 2, 9), fact(0, 2, 8)}, []int{2}, binding([]int{11, 10}, []int{2, 9})},
		"a head of more than three":       {query([]int{10, 11, 10, 11}, atom(0, 10, 11)), facts, []int{4, 2, 4, 2}, binding([]int{10, 11}, []int{4, 2})},
		"no atoms":                        {impl.Query{}, facts, nil, none},
		"constants in the head":           {query([]int{3, 10, -5}, atom(1, 10)), facts, []int{3, 2, -5}, binding([]int{10}, []int{2})},
		"a variable that no atom has":     {query([]int{11}, atom(1, 10)), facts, []int{-1}, binding([]int{10}, []int{2})},
		"variables, no atoms":             {query([]int{11, 12}), nil, []int{-1, -1}, none},
		"a value of -1":                   {query([]int{10}, atom(1, 11), atom(1, 10)), []impl.Fact{fact(1, 4), fact(1, -1)}, []int{-1}, binding([]int{11, 10}, []int{4, -1})},
		"terms and facts, none are valid": {query([]int{18}, atom(-9, 18, 10, 11), atom(-9, 10)), []impl.Fact{fact(-9, 18, 40, 41), fact(-9, 40)}, []int{18}, binding([]int{10, 11}, []int{40, 41})},
	} {
		got, ok := impl.FindMapping(c.q, c.facts, c.head)
		if !ok || !equalBindings(got, c.want) || !impl.IsMapping(c.q, c.facts, c.head, got) {
			t.Errorf("%s: FindMapping(%v, %v, %v) = %v, %v, want %v", why, c.q, c.facts, c.head, got, ok, c.want)
		}
	}
	for why, c := range map[string]struct {
		q    impl.Query
		head []int
	}{
		"another value":                    {query([]int{10}, atom(0, 10, 2)), []int{5}},
		"another atom does not fit":        {query([]int{10}, atom(0, 10, 11), atom(1, 11)), []int{5}},
		"values of two bindings":           {query([]int{10, 11}, atom(0, 10, 11)), []int{4, 3}},
		"no facts for an atom":             {query(nil, atom(1, 3)), nil},
		"a variable with two values":       {query([]int{10, 10}, atom(0, 10, 11)), []int{1, 4}},
		"too few values":                   {query([]int{10}, atom(1, 10)), nil},
		"too many values":                  {query([]int{10}, atom(1, 10)), []int{2, 2}},
		"a value for none":                 {query(nil, atom(1, 10)), []int{2}},
		"no value, but -1":                 {query([]int{10}, atom(1, 10)), []int{-1}},
		"another constant in the head":     {query([]int{3}, atom(1, 10)), []int{2}},
		"a variable that no atom has":      {query([]int{11}, atom(1, 10)), []int{2}},
		"a variable that no atom has, too": {query([]int{10, 11}, atom(1, 10)), []int{2, 2}},
		"no atoms":                         {query([]int{10}), []int{2}},
		"no atom, no value":                {query(nil), []int{2}},
	} {
		if got, ok := impl.FindMapping(c.q, facts, c.head); ok || !equalBindings(got, none) {
			t.Errorf("%s: FindMapping(%v, %v) = %v, %v", why, c.q, c.head, got, ok)
		}
	}
}

// Every mapping is the first of all bindings with its head, and where there is none, none is found.
func TestFindMappingIsTheFirst(t *testing.T) {
	heads := [][]int{nil, {}, {2}, {9, 9}, {9, 9, 9}, {0, 9}, {3, 1}, {5, 4, 4}, {1, 2, 1}, {-1}}
	counts := map[bool]int{}
	for _, facts := range append(smallFacts(), []impl.Fact{fact(1, 9), fact(0, 2, 2), fact(1, 2), fact(0, 9, 2), fact(1, 2)}) {
		for i, q := range smallQueries() {
			if i%3 > 0 {
				continue
			}
			all := bindingsByLevels(q, facts)
			tried := slices.Clone(heads)
			for _, b := range all {
				tried = append(tried, impl.TupleOf(q, b))
			}
			for _, head := range tried {
				at := slices.IndexFunc(all, func(b impl.Binding) bool { return slices.Equal(impl.TupleOf(q, b), head) })
				want := impl.Binding{}
				if at >= 0 {
					want = all[at]
				}
				if got, ok := impl.FindMapping(q, facts, head); ok != (at >= 0) || !equalBindings(got, want) {
					t.Fatalf("FindMapping(%v, %v, %v) = %v, %v, want %v", q, facts, head, got, ok, want)
				}
				counts[at >= 0]++
			}
		}
	}
	if counts[true] < 1000 || counts[false] < 1000 {
		t.Errorf("mappings or not are %v", counts)
	}
}

// A query has no greatest number of atoms here, and there may be more facts than a source has.
func TestFindMappingAmongMany(t *testing.T) {
	q := query([]int{10}, slices.Repeat([]impl.Atom{atom(0, 10)}, 100000)...)
	if got, ok := impl.FindMapping(q, []impl.Fact{fact(0, 4), fact(0, 5)}, []int{5}); !ok || !equalBindings(got, binding([]int{10}, []int{5})) {
		t.Errorf("many atoms: %v, %v", got, ok)
	}
	var facts []impl.Fact
	for n := range 1000 {
		facts = append(facts, fact(0, n/100, n/10%10, n%10))
	}
	q = query([]int{10, 14, 17}, atom(0, 10, 11, 12), atom(0, 13, 14, 15), atom(0, 16, 17, 16), atom(0, 17, 14, 10))
	if got, ok := impl.FindMapping(q, facts, []int{9, 8, 7}); !ok || !equalBindings(got, binding([]int{10, 11, 12, 13, 14, 15, 16, 17}, []int{9, 0, 0, 0, 8, 0, 0, 7})) {
		t.Errorf("many facts: %v, %v", got, ok)
	}
	// This head has no mapping, because no fact has a value 10.
	if got, ok := impl.FindMapping(q, facts, []int{10, 8, 7}); ok {
		t.Errorf("a head of no facts: %v", got)
	}
}

func TestIsMapping(t *testing.T) {
	facts := []impl.Fact{fact(0, 1, 2), fact(0, 4, 2), fact(0, 5, 5), fact(1, 2)}
	q := query([]int{10}, atom(0, 10, 11), atom(1, 11))
	for why, c := range map[string]struct {
		q    impl.Query
		head []int
		b    impl.Binding
	}{
		"the first":                      {q, []int{1}, binding([]int{10, 11}, []int{1, 2})},
		"a later one":                    {q, []int{4}, binding([]int{10, 11}, []int{4, 2})},
		"in another order":               {q, []int{4}, binding([]int{11, 10}, []int{2, 4})},
		"with entries more":              {q, []int{4}, binding([]int{17, 11, 3, 10}, []int{8, 2, 8, 4})},
		"where the first entry counts":   {q, []int{4}, binding([]int{11, 10, 10}, []int{2, 4, 1})},
		"two variables for one value":    {query(nil, atom(0, 10, 11)), nil, binding([]int{10, 11}, []int{5, 5})},
		"two atoms for one fact":         {query(nil, atom(0, 10, 11), atom(0, 12, 11)), nil, binding([]int{10, 11, 12}, []int{4, 2, 4})},
		"no variables":                   {query(nil, atom(0, 1, 2)), nil, impl.Binding{}},
		"no atoms":                       {query([]int{10, 3, 11}), []int{7, 3, -1}, binding([]int{10}, []int{7})},
		"a constant, and an entry for 1": {query(nil, atom(0, 1, 2)), nil, binding([]int{1}, []int{4})},
	} {
		if !impl.IsMapping(c.q, facts, c.head, c.b) {
			t.Errorf("%s: %v is no mapping of %v to %v", why, c.b, c.q, c.head)
		}
	}
	for why, c := range map[string]struct {
		q    impl.Query
		head []int
		b    impl.Binding
	}{
		"another head":                 {q, []int{4}, binding([]int{10, 11}, []int{1, 2})},
		"a head too short":             {q, nil, binding([]int{10, 11}, []int{1, 2})},
		"a head too long":              {q, []int{1, 2}, binding([]int{10, 11}, []int{1, 2})},
		"the first atom is no fact":    {q, []int{2}, binding([]int{10, 11}, []int{2, 2})},
		"the last atom is no fact":     {q, []int{5}, binding([]int{10, 11}, []int{5, 5})},
		"a variable without a value":   {q, []int{1}, binding([]int{10}, []int{1})},
		"a head without a value":       {q, []int{1}, binding([]int{11}, []int{2})},
		"no binding":                   {q, []int{1}, impl.Binding{}},
		"more variables than values":   {q, []int{1}, binding([]int{10, 11, 12}, []int{1, 2})},
		"more values than variables":   {q, []int{1}, binding([]int{10, 11}, []int{1, 2, 3})},
		"values without variables":     {query(nil, atom(0, 1, 2)), nil, binding(nil, []int{1})},
		"variables without values":     {query(nil, atom(0, 1, 2)), nil, binding([]int{10}, nil)},
		"where the first entry counts": {q, []int{4}, binding([]int{11, 10, 10}, []int{2, 1, 4})},
		"a constant that is no fact":   {query(nil, atom(0, 2, 1)), nil, impl.Binding{}},
		"another relation":             {query(nil, atom(1, 10)), nil, binding([]int{10}, []int{5})},
		"more terms than values":       {query(nil, atom(1, 10, 10)), nil, binding([]int{10}, []int{2})},
		"fewer terms than values":      {query(nil, atom(0, 10)), nil, binding([]int{10}, []int{5})},
		"a term that is not valid":     {query(nil, atom(1, 18)), nil, binding([]int{18}, []int{2})},
		"another constant in the head": {query([]int{3}, atom(1, 2)), []int{4}, impl.Binding{}},
	} {
		if impl.IsMapping(c.q, facts, c.head, c.b) {
			t.Errorf("%s: %v is a mapping of %v to %v", why, c.b, c.q, c.head)
		}
	}
	if !impl.IsMapping(query([]int{10}, atom(-3, 10, 18)), []impl.Fact{fact(-3, -1, 18)}, []int{-1}, impl.Binding{}) {
		t.Error("a value of -1 is none of the fact's")
	}
}

// Exactly the bindings of a query, cut to its head, are mappings among all lists of values for its variables.
func TestMappingsAreTheBindings(t *testing.T) {
	total := 0
	for _, facts := range smallFacts() {
		for i, q := range smallQueries() {
			if i%17 > 0 {
				continue
			}
			vars := impl.VarsOf(q)
			heads := [][]int{{9}, {3}}
			count := 0
			for code := range 1000 {
				values := []int{code % 10, code / 10 % 10, code / 100}
				if slices.Max(append(values[len(vars):], 0)) > 0 {
					continue
				}
				b := binding(vars, values[:len(vars)])
				if impl.IsMapping(q, facts, impl.TupleOf(q, b), b) {
					count++
				}
				for _, head := range heads {
					if impl.IsMapping(q, facts, head, b) && !slices.Equal(head, impl.TupleOf(q, b)) {
						t.Fatalf("IsMapping(%v, %v, %v, %v)", q, facts, head, b)
					}
				}
			}
			if want := len(bindingsByLevels(q, facts)); count != want {
				t.Fatalf("%d mappings of %v to %v, want %d", count, q, facts, want)
			}
			total += count
		}
	}
	if total < 500 {
		t.Errorf("only %d mappings", total)
	}
}

func TestIsContained(t *testing.T) {
	for _, c := range []struct {
		p, q       string
		isThere    bool
		isThereToo bool
	}{
		{"x0 if r0(1,x0) and r1(x0)", "x0 if r0(x1,x0)", true, false},
		{"x0 if r0(x1,x0)", "x5 if r0(x2,x5) and r0(x3,x5)", true, true},
		{"x0 if r0(1,x0) and r1(x0)", "yes if r1(x0)", false, false},
		{"yes if r1(x3)", "yes if r1(x0)", true, true},
		{"x3 if r1(x3)", "x0 if r1(x0)", true, true},
		{"x0 if r0(x0,x0)", "x0 if r0(x0,x1)", true, false},
		{"x0 if r0(x0,x1)", "x1 if r0(x0,x1)", false, false},
		{"x0,x1 if r0(x0,x1)", "x1,x0 if r0(x1,x0)", true, true},
		{"x0,x1 if r0(x0,x1)", "x1,x0 if r0(x0,x1)", false, false},
		{"x0,x0 if r0(x0,x1)", "x0,x1 if r0(x0,x2) and r0(x1,x2)", true, false},
		{"x0,x0 if r0(x0,x0)", "x0,x1 if r0(x0,x1)", true, false},
		// A circle of two is in a circle of four, which is in a way of any length.
		{"yes if r0(x0,x1) and r0(x1,x0)", "yes if r0(x0,x1) and r0(x1,x2) and r0(x2,x3) and r0(x3,x0)", true, false},
		{"yes if r0(x0,x1) and r0(x1,x0)", "yes if r0(x0,x1) and r0(x1,x2) and r0(x2,x0)", false, false},
		{"yes if r0(x0,x1) and r0(x1,x2) and r0(x2,x3) and r0(x3,x0)", "yes if r0(x7,x6) and r0(x6,x5) and r0(x5,x4) and r0(x4,x3)", true, false},
		{"yes if r0(x0,x0)", "yes if r0(x0,x1) and r0(x1,x2) and r0(x2,x0)", true, false},
		{"x0 if r0(x0,x1) and r0(x1,x2)", "x0 if r0(x0,x1)", true, false},
		{"x2 if r0(x0,x1) and r0(x1,x2)", "x0 if r0(x0,x1)", false, false},
	} {
		p, q := readPairQuery(t, c.p), readPairQuery(t, c.q)
		if got := impl.IsContained(pairSchema, p, q); got != c.isThere {
			t.Errorf("%s in %s is %v", c.p, c.q, got)
		}
		if got := impl.IsContained(pairSchema, q, p); got != c.isThereToo {
			t.Errorf("%s in %s is %v", c.q, c.p, got)
		}
		if got := impl.IsEquivalent(pairSchema, p, q); got != (c.isThere && c.isThereToo) {
			t.Errorf("%s is equivalent to %s: %v", c.p, c.q, got)
		}
	}
}

// The first query has other constants than the second one. A variable must not be frozen as a constant of either.
func TestContainmentWithDifferentConstants(t *testing.T) {
	for _, c := range []struct {
		p, q       string
		isThere    bool
		isThereToo bool
	}{
		{"yes if r1(x0)", "yes if r1(0)", false, true},
		{"yes if r1(1)", "yes if r1(0)", false, false},
		{"x0 if r0(1,x0)", "x0 if r0(2,x0)", false, false},
		{"x0 if r0(x0,x0)", "x0 if r0(x0,0)", false, false},
		{"x0 if r0(x0,x1)", "x0 if r0(x0,1)", false, true},
		{"x0 if r0(x0,3)", "x0 if r0(x0,0)", false, false},
		{"x1 if r0(0,x1)", "x1 if r0(x0,x1)", true, false},
		{"x1 if r0(x0,x1) and r0(0,x2)", "x1 if r0(0,x1)", false, true},
		{"x1 if r0(x0,x1) and r1(0) and r1(1)", "x1 if r0(2,x1)", false, false},
		{"x1 if r0(x0,x1) and r1(0) and r1(1)", "x1 if r0(x3,x1) and r1(1)", true, false},
		{"x1 if r0(x0,x1) and r1(0) and r1(1)", "x1 if r0(x3,x1) and r1(2)", false, false},
		{"x0 if r0(x0,x1) and r0(x1,x2) and r0(x2,x3)", "x0 if r0(x0,x1) and r0(3,x2)", false, false},
		{"x0 if r0(x0,x1) and r0(3,x2) and r1(9)", "x0 if r0(x0,x1) and r0(3,x2)", true, false},
		{"yes if r0(0,1) and r0(1,0)", "yes if r0(x0,x1) and r0(x1,x0)", true, false},
		{"yes if r0(0,1) and r0(1,2)", "yes if r0(x0,x1) and r0(x1,x0)", false, false},
	} {
		p, q := readPairQuery(t, c.p), readPairQuery(t, c.q)
		if got := impl.IsContained(pairSchema, p, q); got != c.isThere {
			t.Errorf("%s in %s is %v", c.p, c.q, got)
		}
		if got := impl.IsContained(pairSchema, q, p); got != c.isThereToo {
			t.Errorf("%s in %s is %v", c.q, c.p, got)
		}
		if impl.IsEquivalent(pairSchema, p, q) || impl.IsEquivalent(pairSchema, q, p) {
			t.Errorf("%s is equivalent to %s", c.p, c.q)
		}
	}
	// All pairs of constants: only the same ones, and a variable for a constant.
	for c := range 10 {
		constant := query(nil, atom(0, c, 10), atom(1, 10))
		for d := range 10 {
			if got := impl.IsContained(pairSchema, constant, query(nil, atom(0, d, 11))); got != (c == d) {
				t.Errorf("%d in %d is %v", c, d, got)
			}
		}
		if variable := query(nil, atom(0, 11, 10)); !impl.IsContained(pairSchema, constant, variable) || impl.IsContained(pairSchema, variable, constant) {
			t.Errorf("%d and a variable", c)
		}
	}
}

func hasTuple(l [][]int, tuple []int) bool {
	return slices.ContainsFunc(l, func(other []int) bool { return slices.Equal(other, tuple) })
}

// checkAnswersAreContained looks for an answer that only the first query has.
func checkAnswersAreContained(t *testing.T, p, q impl.Query, facts []impl.Fact) {
	t.Helper()
	answers := impl.AnswersOf(pairSchema, q, facts)
	for _, a := range impl.AnswersOf(pairSchema, p, facts) {
		if !hasTuple(answers, a) {
			t.Fatalf("%s is contained in %s, but for %v only the first has the answer %v", impl.FormatQuery(p), impl.FormatQuery(q), facts, a)
		}
	}
}

// Of two queries, one is contained in the other one exactly if the terms of the one can be put into the other one. Then it has no other answers, and otherwise its own atoms are facts for which it has one.
func TestContainedQueriesHaveNoOtherAnswersForAnyFacts(t *testing.T) {
	all := pairQueries()
	counts := map[bool]int{}
	for i, p := range all {
		for k, q := range all {
			if (i+3*k)%7 > 0 && i != k {
				continue
			}
			got, want := impl.IsContained(pairSchema, p, q), containedByHand(p, q)
			if got != want || impl.IsEquivalent(pairSchema, p, q) != (want && containedByHand(q, p)) {
				t.Fatalf("%s in %s is %v", impl.FormatQuery(p), impl.FormatQuery(q), got)
			}
			counts[got]++
			if got {
				for _, facts := range smallFacts() {
					checkAnswersAreContained(t, p, q, facts)
				}
				continue
			}
			frozen, values, _ := frozenByHand(p, constantsByHand(q))
			tuple := valuesByHand(p.Head, values)
			if (i+k)%11 == 0 && (!hasTuple(answersByTrial(p, frozen), tuple) || hasTuple(answersByTrial(q, frozen), tuple)) {
				t.Fatalf("%s is not contained in %s, but for %v both have the answer %v", impl.FormatQuery(p), impl.FormatQuery(q), frozen, tuple)
			}
		}
	}
	if counts[true] < 1000 || counts[false] < 1000 {
		t.Errorf("contained or not are %v", counts)
	}
}

// Queries of three values an atom, with up to four atoms and eight variables.
func TestContainmentOfLargeQueries(t *testing.T) {
	terms := []int{4, 10, 11, 12, 13, 14, 15, 16, 17}
	var all []impl.Query
	for n := range 90 {
		var atoms []impl.Atom
		for i := range 1 + n%4 {
			at := func(k int) int { return terms[(n*k+i*(n%5)+k*k)%(2+n%8)] }
			atoms = append(atoms, atom(0, at(1), at(2+i), at(5)))
		}
		all = append(all, query(nil, atoms...))
	}
	counts := map[bool]int{}
	for i, p := range all {
		for k, q := range all {
			if len(impl.VarsOf(q)) > 4 && (i+k)%29 > 0 {
				continue
			}
			got := impl.IsContained([]int{3}, p, q)
			if got != containedByHand(p, q) {
				t.Fatalf("%s in %s is %v", impl.FormatQuery(p), impl.FormatQuery(q), got)
			}
			counts[got]++
		}
	}
	if counts[true] < 200 || counts[false] < 200 {
		t.Errorf("contained or not are %v", counts)
	}
}

func TestContainmentNeedsEnoughValues(t *testing.T) {
	s := []int{3}
	one := query([]int{10}, atom(0, 11, 12, 10))
	eleven := query([]int{10}, atom(0, 1, 2, 10), atom(0, 3, 11, 12), atom(0, 13, 14, 15), atom(0, 16, 17, 3))
	for why, c := range map[string]struct {
		p, q impl.Query
		want bool
	}{
		"ten terms in themselves":            {manyTerms(1, 8), manyTerms(1, 8), true},
		"ten terms in one atom":              {manyTerms(1, 8), one, true},
		"eleven terms in themselves":         {manyTerms(1, 8, 3), manyTerms(1, 8, 3), false},
		"eleven terms in one atom":           {eleven, one, false},
		"a constant more in the second one":  {manyTerms(1, 8), query([]int{12}, atom(0, 10, 11, 12), atom(0, 13, 14, 8)), false},
		"the same constants":                 {manyTerms(1, 8), query([]int{12}, atom(0, 10, 11, 12), atom(0, 14, 13, 1), atom(0, 8, 15, 15)), true},
		"two constants more":                 {manyTerms(), query([]int{12}, atom(0, 10, 11, 12), atom(0, 1, 2, 13)), false},
		"only the second one has too many":   {query([]int{10}, atom(0, 1, 2, 10), atom(0, 3, 3, 3)), eleven, true},
		"the second one too many, and other": {query([]int{10}, atom(0, 1, 2, 10), atom(0, 5, 5, 5)), eleven, false},
	} {
		if got := impl.IsContained(s, c.p, c.q); got != c.want {
			t.Errorf("%s: %s in %s is %v", why, impl.FormatQuery(c.p), impl.FormatQuery(c.q), got)
		}
	}
	if !impl.IsEquivalent(s, manyTerms(1, 8), manyTerms(1, 8)) || impl.IsEquivalent(s, eleven, eleven) || impl.IsEquivalent(s, query([]int{10}, atom(0, 1, 2, 10), atom(0, 3, 3, 3)), eleven) {
		t.Error("equivalent")
	}
}

// queryWithSchema is one of two arguments; the other one is valid.
type queryWithSchema struct {
	s []int
	q impl.Query
}

func invalidQueries() map[string]queryWithSchema {
	a := atom(1, 10)
	return map[string]queryWithSchema{
		"no schema":                  {nil, query([]int{10}, a)},
		"a schema that is not valid": {[]int{2, 1, 4}, query([]int{10}, a)},
		"too many relations":         {[]int{2, 1, 1, 1}, query([]int{10}, a)},
		"atoms of another schema":    {[]int{2, 2}, query([]int{10}, a)},
		"no atoms":                   {pairSchema, impl.Query{}},
		"too many atoms":             {pairSchema, query([]int{10}, a, a, a, a, a)},
		"too many head elements":     {pairSchema, query([]int{10, 10, 10, 10}, a)},
		"a head of other variables":  {pairSchema, query([]int{11}, a)},
		"a constant in the head":     {pairSchema, query([]int{2}, atom(1, 2))},
		"an atom with too few terms": {pairSchema, query([]int{10}, a, atom(0, 1))},
		"an atom of no relation":     {pairSchema, query([]int{10}, a, atom(2, 1))},
		"a term that is not valid":   {pairSchema, query([]int{10}, atom(0, 10, 18), a)},
		"a negative term":            {pairSchema, query([]int{10}, atom(0, 10, -1), a)},
		"a negative relation":        {pairSchema, query([]int{10}, atom(-1, 10), a)},
	}
}

// An invalid query is contained in none, not even in itself, and no other one is in it.
func TestContainmentOfInvalid(t *testing.T) {
	for why, c := range invalidQueries() {
		valid := query(nil, atom(1, 10))
		if len(c.q.Head) > 0 {
			valid = query(slices.Repeat([]int{10}, min(len(c.q.Head), 3)), atom(1, 10))
		}
		for _, pair := range [][2]impl.Query{{c.q, c.q}, {c.q, valid}, {valid, c.q}} {
			if impl.IsContained(c.s, pair[0], pair[1]) || impl.IsEquivalent(c.s, pair[0], pair[1]) {
				t.Errorf("%s: %v is contained in %v", why, pair[0], pair[1])
			}
		}
		if got := impl.CoreOf(c.s, c.q); !equalQueries(got, c.q) {
			t.Errorf("%s: CoreOf(%v, %v) = %v", why, c.s, c.q, got)
		}
	}
	if !impl.IsContained(pairSchema, query([]int{10}, atom(1, 10)), query([]int{10}, atom(1, 10))) {
		t.Error("the valid query is not contained in itself")
	}
}

func TestDropAtom(t *testing.T) {
	a, b, c := atom(0, 1, 10), atom(1, 10), atom(1, 2)
	q := query([]int{10, 10}, a, b, c)
	for _, test := range []struct {
		q    impl.Query
		at   int
		want impl.Query
	}{
		{q, 0, query([]int{10, 10}, b, c)},
		{q, 1, query([]int{10, 10}, a, c)},
		{q, 2, query([]int{10, 10}, a, b)},
		{q, 3, q},
		{q, -1, q},
		{q, math.MaxInt, q},
		{q, math.MinInt, q},
		{query([]int{10}, b, b), 0, query([]int{10}, b)},
		{query([]int{10}, b), 0, query([]int{10})},
		{query([]int{10}), 0, query([]int{10})},
		{impl.Query{}, 0, impl.Query{}},
		{impl.Query{}, -1, impl.Query{}},
		{query([]int{-7, 3, 99, 4}, atom(-1), a, a, a, a, a, atom(9, 99)), 6, query([]int{-7, 3, 99, 4}, atom(-1), a, a, a, a, a)},
	} {
		if got := impl.DropAtom(test.q, test.at); !equalQueries(got, test.want) {
			t.Errorf("DropAtom(%v, %d) = %v, want %v", test.q, test.at, got, test.want)
		}
	}
}

func TestCoreOf(t *testing.T) {
	for text, want := range map[string]string{
		"x0 if r0(x1,x0) and r0(x2,x0) and r0(1,x0)":     "x0 if r0(1,x0)",
		"x0 if r0(1,x0) and r1(x0)":                      "x0 if r0(1,x0) and r1(x0)",
		"x0 if r0(1,x0) and r0(x1,x0) and r0(x2,x0)":     "x0 if r0(1,x0)",
		"x0 if r0(x1,x0) and r0(x2,x0)":                  "x0 if r0(x2,x0)",
		"x0,x1 if r0(x1,x0) and r0(x2,x0)":               "x0,x1 if r0(x1,x0)",
		"x0,x1 if r0(x2,x0) and r0(x1,x0)":               "x0,x1 if r0(x1,x0)",
		"x1,x2 if r0(x1,x0) and r0(x2,x0)":               "x1,x2 if r0(x1,x0) and r0(x2,x0)",
		"yes if r1(x0) and r1(x1) and r1(x2) and r1(x3)": "yes if r1(x3)",
		"yes if r1(x0) and r1(3) and r1(x2) and r1(x3)":  "yes if r1(3)",
		"yes if r1(4) and r1(3) and r1(x2) and r1(4)":    "yes if r1(3) and r1(4)",
		"x3 if r1(x0) and r1(x3) and r1(x2) and r1(x3)":  "x3 if r1(x3)",
		"x0 if r1(x0)":               "x0 if r1(x0)",
		"yes if r1(7)":               "yes if r1(7)",
		"x0,x1 if r1(x0) and r1(x1)": "x0,x1 if r1(x0) and r1(x1)",
		"x0 if r1(x0) and r1(x1)":    "x0 if r1(x0)",
		"x1 if r1(x0) and r1(x1)":    "x1 if r1(x1)",
		"yes if r0(x0,x1) and r0(x1,x2) and r0(x2,x3) and r0(x3,x0)":     "yes if r0(x0,x1) and r0(x1,x2) and r0(x2,x3) and r0(x3,x0)",
		"yes if r0(x0,x1) and r0(x1,x0) and r0(x2,x3) and r0(x3,x2)":     "yes if r0(x2,x3) and r0(x3,x2)",
		"yes if r0(x0,x1) and r0(x1,x2) and r0(x2,x3) and r0(x4,x4)":     "yes if r0(x4,x4)",
		"x0 if r0(x0,x1) and r0(x1,x2) and r0(x2,x3) and r0(x4,x4)":      "x0 if r0(x0,x1) and r0(x1,x2) and r0(x2,x3) and r0(x4,x4)",
		"x0 if r0(x0,x1) and r0(x1,x2) and r0(x2,x3) and r0(x0,x0)":      "x0 if r0(x0,x0)",
		"yes if r0(x0,x1) and r0(x2,x1) and r0(x2,x3) and r0(x0,x3)":     "yes if r0(x0,x3)",
		"x0,x2 if r0(x0,x1) and r0(x2,x1) and r0(x2,x3) and r0(x0,x3)":   "x0,x2 if r0(x2,x3) and r0(x0,x3)",
		"x0 if r0(x0,x1) and r0(0,x1) and r0(x0,x2) and r0(1,x2)":        "x0 if r0(x0,x1) and r0(0,x1) and r0(x0,x2) and r0(1,x2)",
		"x0 if r0(x0,x1) and r0(0,x1) and r0(x0,x2) and r0(0,x2)":        "x0 if r0(x0,x2) and r0(0,x2)",
		"x0,x1,x2 if r0(x0,x1) and r0(x1,x2) and r0(x0,x3) and r0(x4,9)": "x0,x1,x2 if r0(x0,x1) and r0(x1,x2) and r0(x4,9)",
	} {
		q := readPairQuery(t, text)
		if got := impl.FormatQuery(impl.CoreOf(pairSchema, q)); got != want {
			t.Errorf("CoreOf(%s) = %s, want %s", text, got, want)
		}
	}
	// More terms than values do not matter for what is left.
	q := query([]int{16}, atom(0, 10, 11, 12), atom(0, 13, 14, 15), atom(0, 16, 17, 0), atom(0, 1, 2, 2))
	if got := impl.CoreOf([]int{3}, q); !equalQueries(got, query([]int{16}, q.Atoms[2:]...)) {
		t.Errorf("CoreOf(%v) = %v", q, got)
	}
}

// A core goes through the atoms as the document does, has the same answers, and cannot be made smaller.
func TestCoresAreEquivalentAndSmallest(t *testing.T) {
	smaller := 0
	for i, q := range slices.Concat(pairQueries(), smallQueries(), orderQueries()) {
		if len(q.Head) == 0 && i%3 > 0 || !impl.IsQuery(pairSchema, q) {
			continue
		}
		want := copyQuery(q)
		for at := 0; at < len(want.Atoms); {
			left := query(want.Head, slices.Delete(slices.Clone(want.Atoms), at, at+1)...)
			isHead := !slices.ContainsFunc(left.Head, func(v int) bool { return !hasTerm(left, v) })
			if len(left.Atoms) > 0 && isHead && containedByHand(left, want) {
				want = left
			} else {
				at++
			}
		}
		got := impl.CoreOf(pairSchema, q)
		if !equalQueries(got, want) {
			t.Fatalf("CoreOf(%s) = %s, want %s", impl.FormatQuery(q), impl.FormatQuery(got), impl.FormatQuery(want))
		}
		if !impl.IsEquivalent(pairSchema, got, q) || !equalQueries(impl.CoreOf(pairSchema, got), got) {
			t.Fatalf("CoreOf(%s) = %s", impl.FormatQuery(q), impl.FormatQuery(got))
		}
		if len(got.Atoms) == len(q.Atoms) {
			continue
		}
		smaller++
		for _, facts := range smallFacts() {
			if !equalTuples(impl.AnswersOf(pairSchema, q, facts), impl.AnswersOf(pairSchema, got, facts)) {
				t.Fatalf("%s and its core %s have other answers for %v", impl.FormatQuery(q), impl.FormatQuery(got), facts)
			}
		}
	}
	if smaller < 500 {
		t.Errorf("only %d smaller cores", smaller)
	}
}

// All lists have spare capacity with other numbers in it.
func TestContainmentLeavesArguments(t *testing.T) {
	numbers := []int{10, 77, 10, 11, 77, 11, 77, 1, 2, 77, 2, 77, 1, 77, 10, 11, 77, 1, 2, 77}
	schema := []int{2, 1, 77}
	atoms := []impl.Atom{atom(0, numbers[2:4]...), atom(1, numbers[5:6]...), atom(1, 10), atom(7, 7)}
	facts := []impl.Fact{fact(0, numbers[7:9]...), fact(1, numbers[10:11]...), fact(1, 1), fact(9, 9)}
	q := impl.Query{Head: numbers[0:1], Atoms: atoms[:2]}
	head, b := numbers[12:13], binding(numbers[14:16], numbers[17:19])
	numbersBefore, atomsBefore, factsBefore := slices.Clone(numbers), copyQuery(query(nil, atoms...)).Atoms, deepCopy(facts)
	check := func(what string) {
		t.Helper()
		if !slices.Equal(numbers, numbersBefore) || !slices.Equal(schema, []int{2, 1, 77}) || !reflect.DeepEqual(atoms, atomsBefore) || !reflect.DeepEqual(facts, factsBefore) {
			t.Errorf("after %s the arguments are %v, %v, %v and %v", what, schema, numbers, atoms, facts)
		}
	}
	for range 2 {
		frozen, given, ok := impl.FreezeQuery(q)
		tuple := impl.TupleOf(q, b)
		mapping, isMapped := impl.FindMapping(q, facts[:2], head)
		unchanged, dropped, core := impl.DropAtom(q, 5), impl.DropAtom(q, 0), impl.CoreOf(schema[:2], impl.Query{Head: q.Head, Atoms: atoms[:3]})
		if !ok || !isMapped || !slices.Equal(tuple, []int{1}) || !equalBindings(mapping, b) || !equalFacts(frozen, []impl.Fact{fact(0, 0, 1), fact(1, 1)}) || !equalBindings(given, binding([]int{10, 11}, []int{0, 1})) {
			t.Errorf("%v, %v, %v and %v", frozen, given, tuple, mapping)
		}
		if !equalQueries(unchanged, q) || !equalQueries(dropped, query(q.Head, q.Atoms[1])) || !equalQueries(core, query(q.Head, atoms[:3]...)) {
			t.Errorf("%v, %v and %v", unchanged, dropped, core)
		}
		if !impl.IsMapping(q, facts[:2], head, b) || !impl.IsContained(schema[:2], q, q) || !impl.IsEquivalent(schema[:2], q, q) {
			t.Error("checks")
		}
		check("the calls")
		lists := [][]int{given.Vars, given.Values, mapping.Vars, mapping.Values, tuple}
		for _, f := range frozen {
			lists = append(lists, f.Values)
		}
		for _, other := range []impl.Query{unchanged, dropped, core} {
			lists = append(lists, other.Head)
			for _, a := range other.Atoms {
				lists = append(lists, a.Terms)
			}
			_ = append(other.Atoms, atom(-3))
			other.Atoms[0] = atom(-4)
		}
		checkTuplesApart(t, lists)
		_ = append(frozen, fact(-3))
		frozen[0] = fact(-4)
		check("a change of the results")
	}
}
