package tests

import (
	"math"
	"reflect"
	"slices"
	"testing"

	"loop.example/g01989/impl"
)

func binding(vars, values []int) impl.Binding {
	return impl.Binding{Vars: vars, Values: values}
}

// equalBindings holds nil and empty lists for equal.
func equalBindings(a, b impl.Binding) bool {
	return slices.Equal(a.Vars, b.Vars) && slices.Equal(a.Values, b.Values)
}

// equalTuples holds nil and empty lists for equal.
func equalTuples(a, b [][]int) bool {
	return slices.EqualFunc(a, b, slices.Equal)
}

func copyTuples(l [][]int) [][]int {
	var out [][]int
	for _, t := range l {
		out = append(out, slices.Clone(t))
	}
	return out
}

// someTuples has lists of any numbers, in strictly ascending order.
func someTuples() [][]int {
	return [][]int{{}, {math.MinInt}, {math.MinInt, 4}, {-1}, {0}, {0, 0}, {0, 0, 0, 0, 0}, {0, 9}, {1}, {1, 2}, {1, 2, 3}, {2}, {10}, {math.MaxInt}}
}

// triples has 24 facts of the relation 0, for three values each.
func triples() []impl.Fact {
	var l []impl.Fact
	for n := range 24 {
		l = append(l, fact(0, n/10, n%10, n*7%10))
	}
	return l
}

// answersByTrial gives the variables of a query all lists of values in turn, and collects the heads of those under which every atom is a fact.
func answersByTrial(q impl.Query, facts []impl.Fact) [][]int {
	var values [18]int
	for t := range 10 {
		values[t] = t
	}
	holds := func(a impl.Atom) bool {
		return slices.ContainsFunc(facts, func(f impl.Fact) bool {
			return f.Rel == a.Rel && slices.EqualFunc(a.Terms, f.Values, func(t, v int) bool { return values[t] == v })
		})
	}
	var found [][]int
	var try func(vars []int)
	try = func(vars []int) {
		if len(vars) > 0 {
			for v := range 10 {
				values[vars[0]] = v
				try(vars[1:])
			}
			return
		}
		for _, a := range q.Atoms {
			if !holds(a) {
				return
			}
		}
		var head []int
		for _, t := range q.Head {
			head = append(head, values[t])
		}
		found = append(found, head)
	}
	try(impl.VarsOf(q))
	slices.SortFunc(found, slices.Compare)
	return slices.CompactFunc(found, slices.Equal)
}

// bindingsByLevels follows the document word by word: each atom in order, for each binding in order, with each fact in order.
func bindingsByLevels(q impl.Query, facts []impl.Fact) []impl.Binding {
	level := []impl.Binding{{}}
	for _, a := range q.Atoms {
		var next []impl.Binding
		for _, b := range level {
			for _, f := range facts {
				if extended, ok := impl.MatchAtom(b, a, f); ok {
					next = append(next, extended)
				}
			}
		}
		level = next
	}
	return level
}

// smallFacts has lists of facts, of a schema of the arities 2 and 1, in which values stand often and seldom.
func smallFacts() [][]impl.Fact {
	return [][]impl.Fact{
		nil,
		{fact(0, 3, 3)},
		{fact(1, 3)},
		{fact(0, 1, 2), fact(0, 1, 3), fact(0, 4, 2), fact(1, 2)},
		{fact(0, 0, 0), fact(0, 0, 9), fact(0, 9, 0), fact(0, 9, 9), fact(1, 0), fact(1, 9)},
		{fact(0, 1, 2), fact(0, 2, 1), fact(0, 2, 2), fact(0, 3, 1), fact(1, 1), fact(1, 3)},
		{fact(0, 1, 2), fact(0, 2, 3), fact(0, 3, 4), fact(0, 4, 5), fact(0, 5, 1), fact(1, 5)},
	}
}

// smallQueries has queries of one, two and three atoms, of the same schema.
func smallQueries() []impl.Query {
	var atoms []impl.Atom
	terms := []int{2, 9, 10, 11, 17}
	for _, t := range terms {
		atoms = append(atoms, atom(1, t))
		for _, u := range terms {
			atoms = append(atoms, atom(0, t, u))
		}
	}
	var all []impl.Query
	add := func(atoms ...impl.Atom) {
		vars := impl.VarsOf(query(nil, atoms...))
		heads := [][]int{nil, vars}
		if len(vars) > 0 {
			heads = append(heads, vars[:1], []int{vars[len(vars)-1], vars[0], vars[0]})
		}
		for _, head := range heads {
			all = append(all, query(head, atoms...))
		}
	}
	for i, a := range atoms {
		add(a)
		for k, b := range atoms {
			add(a, b)
			add(b, a, atoms[(i*7+k*3)%len(atoms)])
		}
	}
	return all
}

func TestValueOf(t *testing.T) {
	b := binding([]int{12, 10, 12, 3, 18, 17}, []int{4, -7, 5, 8, 8, 0})
	for _, c := range []struct {
		b    impl.Binding
		term int
		want int
	}{
		{b, 12, 4},
		{b, 10, -7},
		{b, 17, 0},
		{b, 11, -1},
		{b, 3, 3},
		{b, 18, 18},
		{b, 0, 0},
		{b, 9, 9},
		{b, -1, -1},
		{b, -7, -7},
		{b, math.MaxInt, math.MaxInt},
		{b, math.MinInt, math.MinInt},
		{impl.Binding{}, 10, -1},
		{impl.Binding{}, 17, -1},
		{impl.Binding{}, 9, 9},
		{impl.Binding{}, 18, 18},
		{binding([]int{10, 11}, []int{5}), 10, 5},
		{binding([]int{10, 11}, []int{5}), 11, -1},
		{binding([]int{10}, nil), 10, -1},
		{binding(nil, []int{5}), 10, -1},
		{binding([]int{10}, []int{5, 6}), 10, 5},
	} {
		if got := impl.ValueOf(c.b, c.term); got != c.want {
			t.Errorf("ValueOf(%v, %d) = %d, want %d", c.b, c.term, got, c.want)
		}
	}
}

func TestMatchAtom(t *testing.T) {
	for why, c := range map[string]struct {
		b    impl.Binding
		a    impl.Atom
		f    impl.Fact
		want impl.Binding
	}{
		"constants only":               {impl.Binding{}, atom(0, 1, 2), fact(0, 1, 2), impl.Binding{}},
		"a variable":                   {impl.Binding{}, atom(0, 1, 10), fact(0, 1, 2), binding([]int{10}, []int{2})},
		"variables in order":           {impl.Binding{}, atom(1, 17, 10, 12), fact(1, 4, 3, 4), binding([]int{17, 10, 12}, []int{4, 3, 4})},
		"the same variable twice":      {impl.Binding{}, atom(0, 10, 10), fact(0, 2, 2), binding([]int{10}, []int{2})},
		"twice around a constant":      {impl.Binding{}, atom(0, 11, 5, 11), fact(0, 0, 5, 0), binding([]int{11}, []int{0})},
		"three times":                  {impl.Binding{}, atom(0, 11, 11, 11), fact(0, 9, 9, 9), binding([]int{11}, []int{9})},
		"twice, before another one":    {impl.Binding{}, atom(0, 11, 11, 10), fact(0, 9, 9, 3), binding([]int{11, 10}, []int{9, 3})},
		"a known variable":             {binding([]int{10}, []int{2}), atom(0, 10, 11), fact(0, 2, 3), binding([]int{10, 11}, []int{2, 3})},
		"known variables only":         {binding([]int{11, 10}, []int{2, 3}), atom(0, 10, 11), fact(0, 3, 2), binding([]int{11, 10}, []int{2, 3})},
		"a known variable twice":       {binding([]int{10}, []int{2}), atom(0, 10, 10), fact(0, 2, 2), binding([]int{10}, []int{2})},
		"other variables stay":         {binding([]int{15, 12}, []int{7, 7}), atom(0, 11), fact(0, 1), binding([]int{15, 12, 11}, []int{7, 7, 1})},
		"the first entry counts":       {binding([]int{10, 10}, []int{2, 3}), atom(0, 10), fact(0, 2), binding([]int{10, 10}, []int{2, 3})},
		"entries for other numbers":    {binding([]int{3, 18}, []int{4, 5}), atom(0, 3, 18, 10), fact(0, 3, 18, 6), binding([]int{3, 18, 10}, []int{4, 5, 6})},
		"terms that are not valid":     {impl.Binding{}, atom(-4, 18, -1, math.MinInt, 10), fact(-4, 18, -1, math.MinInt, 99), binding([]int{10}, []int{99})},
		"a value of -1":                {impl.Binding{}, atom(0, 10, 10), fact(0, -1, -1), binding([]int{10}, []int{-1})},
		"a known value of -1":          {binding([]int{10}, []int{-1}), atom(0, 10), fact(0, -1), binding([]int{10}, []int{-1})},
		"neither terms nor values":     {binding([]int{10}, []int{2}), atom(7), fact(7), binding([]int{10}, []int{2})},
		"a variable's number as value": {impl.Binding{}, atom(0, 10), fact(0, 10), binding([]int{10}, []int{10})},
	} {
		if got, ok := impl.MatchAtom(c.b, c.a, c.f); !ok || !equalBindings(got, c.want) {
			t.Errorf("%s: MatchAtom(%v, %v, %v) = %v, %v, want %v", why, c.b, c.a, c.f, got, ok, c.want)
		}
	}
}

func TestMatchAtomFails(t *testing.T) {
	known := binding([]int{10}, []int{2})
	for why, c := range map[string]struct {
		b impl.Binding
		a impl.Atom
		f impl.Fact
	}{
		"another constant":               {impl.Binding{}, atom(0, 10, 3), fact(0, 1, 2)},
		"another constant at first":      {impl.Binding{}, atom(0, 3, 10), fact(0, 1, 2)},
		"the same variable twice":        {impl.Binding{}, atom(0, 10, 10), fact(0, 1, 2)},
		"twice around a constant":        {impl.Binding{}, atom(0, 10, 5, 10), fact(0, 1, 5, 2)},
		"three times":                    {impl.Binding{}, atom(0, 10, 10, 10), fact(0, 1, 1, 2)},
		"a known variable":               {known, atom(0, 10, 11), fact(0, 1, 3)},
		"a known variable twice":         {known, atom(0, 10, 10), fact(0, 2, 3)},
		"a known variable, twice others": {known, atom(0, 10, 10), fact(0, 3, 3)},
		"the first entry counts":         {binding([]int{10, 10}, []int{2, 3}), atom(0, 10), fact(0, 3)},
		"an entry for a constant":        {binding([]int{3}, []int{4}), atom(0, 3), fact(0, 4)},
		"a known value of -1":            {binding([]int{10}, []int{-1}), atom(0, 10), fact(0, 5)},
		"another relation":               {impl.Binding{}, atom(0, 10), fact(1, 2)},
		"more terms than values":         {impl.Binding{}, atom(0, 10, 11), fact(0, 2)},
		"more values than terms":         {impl.Binding{}, atom(0, 10), fact(0, 2, 3)},
		"no values":                      {impl.Binding{}, atom(0, 10), fact(0)},
		"no terms":                       {impl.Binding{}, atom(0), fact(0, 2)},
		"more variables than values":     {binding([]int{10, 11}, []int{2}), atom(0, 10), fact(0, 2)},
		"more values than variables":     {binding([]int{10}, []int{2, 3}), atom(0, 10), fact(0, 2)},
		"values without variables":       {binding(nil, []int{2}), atom(0, 10), fact(0, 2)},
		"variables without values":       {binding([]int{11}, nil), atom(0), fact(0)},
		"a term that is not valid":       {impl.Binding{}, atom(0, 18), fact(0, 2)},
		"a negative term":                {impl.Binding{}, atom(0, -1), fact(0, 2)},
	} {
		if got, ok := impl.MatchAtom(c.b, c.a, c.f); ok || !equalBindings(got, impl.Binding{}) {
			t.Errorf("%s: MatchAtom(%v, %v, %v) = %v, %v, want no value", why, c.b, c.a, c.f, got, ok)
		}
	}
}

func TestBindingsOf(t *testing.T) {
	none := impl.Binding{}
	facts := []impl.Fact{fact(0, 1, 2), fact(0, 1, 3), fact(0, 4, 2), fact(0, 5, 5), fact(1, 2)}
	xy := []int{10, 11}
	for why, c := range map[string]struct {
		q     impl.Query
		facts []impl.Fact
		want  []impl.Binding
	}{
		"one atom":                      {query(nil, atom(0, 1, 10)), facts, []impl.Binding{binding([]int{10}, []int{2}), binding([]int{10}, []int{3})}},
		"the same variable twice":       {query(nil, atom(0, 10, 10)), facts, []impl.Binding{binding([]int{10}, []int{5})}},
		"two atoms":                     {query(nil, atom(1, 10), atom(0, 11, 10)), facts, []impl.Binding{binding(xy, []int{2, 1}), binding(xy, []int{2, 4})}},
		"two atoms the other way round": {query(nil, atom(0, 11, 10), atom(1, 10)), facts, []impl.Binding{binding([]int{11, 10}, []int{1, 2}), binding([]int{11, 10}, []int{4, 2})}},
		"the first atom's facts first":  {query(nil, atom(0, 1, 10), atom(0, 1, 11)), facts, []impl.Binding{binding(xy, []int{2, 2}), binding(xy, []int{2, 3}), binding(xy, []int{3, 2}), binding(xy, []int{3, 3})}},
		"the facts' order":              {query(nil, atom(1, 10)), []impl.Fact{fact(1, 7), fact(1, 3), fact(1, 5)}, []impl.Binding{binding([]int{10}, []int{7}), binding([]int{10}, []int{3}), binding([]int{10}, []int{5})}},
		"a fact twice":                  {query(nil, atom(1, 10)), []impl.Fact{fact(1, 7), fact(1, 7)}, []impl.Binding{binding([]int{10}, []int{7}), binding([]int{10}, []int{7})}},
		"no variables":                  {query(nil, atom(0, 1, 2)), facts, []impl.Binding{none}},
		"no variables, no fact":         {query(nil, atom(0, 2, 1)), facts, nil},
		"no fact for the second atom":   {query(nil, atom(0, 1, 10), atom(1, 9)), facts, nil},
		"no facts":                      {query(nil, atom(0, 1, 10)), nil, nil},
		"no atoms":                      {query([]int{10}), facts, []impl.Binding{none}},
		"nothing":                       {impl.Query{}, nil, []impl.Binding{none}},
		"nothing valid":                 {query([]int{3, 3, 3, 3}, atom(-9, 18, 10), atom(-9, 10, 11)), []impl.Fact{fact(-9, 18, 18), fact(-9, 18, 40), fact(-9, 3)}, []impl.Binding{binding(xy, []int{18, 18}), binding(xy, []int{18, 40})}},
		"atoms of no terms":             {query(nil, atom(3), atom(3)), []impl.Fact{fact(3), fact(3)}, []impl.Binding{none, none, none, none}},
		"a value of -1":                 {query(nil, atom(0, 10), atom(0, 10)), []impl.Fact{fact(0, -1), fact(0, 2)}, []impl.Binding{binding([]int{10}, []int{-1}), binding([]int{10}, []int{2})}},
	} {
		if got := impl.BindingsOf(c.q, c.facts); !slices.EqualFunc(got, c.want, equalBindings) {
			t.Errorf("%s: BindingsOf(%v, %v) = %v, want %v", why, c.q, c.facts, got, c.want)
		}
	}
}

func TestBindingsOfInOrder(t *testing.T) {
	lists := append(smallFacts(), []impl.Fact{fact(1, 9), fact(0, 2, 2), fact(1, 2), fact(0, 2, 2), fact(0, 2), fact(0, 17, -1)})
	total := 0
	for _, facts := range lists {
		for _, q := range smallQueries() {
			got, want := impl.BindingsOf(q, facts), bindingsByLevels(q, facts)
			if !slices.EqualFunc(got, want, equalBindings) {
				t.Fatalf("BindingsOf(%v, %v) = %v, want %v", q, facts, got, want)
			}
			total += len(got)
		}
	}
	if total < 1000 {
		t.Errorf("only %d bindings", total)
	}
}

// A query has no greatest number of atoms here.
func TestBindingsOfManyAtoms(t *testing.T) {
	q := query(nil, slices.Repeat([]impl.Atom{atom(0, 10)}, 200000)...)
	if got := impl.BindingsOf(q, []impl.Fact{fact(0, 4), fact(1, 4)}); len(got) != 1 || !equalBindings(got[0], binding([]int{10}, []int{4})) {
		t.Errorf("%d bindings", len(got))
	}
}

func TestAnswersOf(t *testing.T) {
	facts := []impl.Fact{fact(0, 1, 2), fact(0, 1, 3), fact(0, 4, 2), fact(0, 5, 5), fact(0, 9, 9), fact(1, 2)}
	for text, want := range map[string]string{
		"x0 if r0(1,x0)":                              "(2) (3)",
		"x0 if r0(1,x0) and r1(x0)":                   "(2)",
		"x0 if r0(x0,x1)":                             "(1) (4) (5) (9)",
		"x1,x0 if r0(x0,x1)":                          "(2,1) (2,4) (3,1) (5,5) (9,9)",
		"x0,x0,x1 if r0(x0,x1)":                       "(1,1,2) (1,1,3) (4,4,2) (5,5,5) (9,9,9)",
		"x0,x1 if r0(x0,x2) and r0(x1,x2)":            "(1,1) (1,4) (4,1) (4,4) (5,5) (9,9)",
		"x0 if r0(x0,x0)":                             "(5) (9)",
		"x7 if r0(x7,x7) and r0(x7,x7)":               "(5) (9)",
		"x0 if r0(x0,x0) and r1(x0)":                  "none",
		"x0,x1 if r0(x0,x0) and r1(x1)":               "(5,2) (9,2)",
		"yes if r0(x0,x0)":                            "()",
		"yes if r1(2)":                                "()",
		"yes if r1(2) and r0(1,3)":                    "()",
		"yes if r1(3)":                                "none",
		"yes if r1(2) and r0(3,1)":                    "none",
		"yes if r0(2,x0) and r0(x1,x2)":               "none",
		"x3 if r0(1,x3) and r0(4,x3) and r1(x3)":      "(2)",
		"x0,x1,x2 if r0(x0,x1) and r1(x1) and r1(x2)": "(1,2,2) (4,2,2)",
	} {
		q, ok := impl.ParseQuery([]int{2, 1}, text)
		if got := impl.FormatTuples(impl.AnswersOf([]int{2, 1}, q, facts)); !ok || got != want {
			t.Errorf("%s: %s, want %s", text, got, want)
		}
	}
	if got := impl.AnswersOf([]int{2, 1}, query(nil, atom(1, 2)), facts); len(got) != 1 || len(got[0]) != 0 {
		t.Errorf("a head without variables: %v", got)
	}
}

// The answers are exactly those for which all atoms are facts, and they are the same in each call.
func TestAnswersAreExact(t *testing.T) {
	counts := map[bool]int{}
	for _, facts := range smallFacts() {
		for i, q := range smallQueries() {
			if len(impl.VarsOf(q)) == 3 && i%5 > 0 {
				continue
			}
			got, want := impl.AnswersOf([]int{2, 1}, q, facts), answersByTrial(q, facts)
			if !equalTuples(got, want) || !equalTuples(got, impl.AnswersOf([]int{2, 1}, q, facts)) {
				t.Fatalf("AnswersOf(%s, %v) = %v, want %v", impl.FormatQuery(q), facts, got, want)
			}
			counts[len(got) > 0]++
		}
	}
	if counts[true] < 1000 || counts[false] < 1000 {
		t.Errorf("answers or not are %v", counts)
	}
}

// A query with an atom more is contained in the one without it, and with more facts there are more answers.
func TestContainedQueriesHaveNoOtherAnswers(t *testing.T) {
	lists := smallFacts()
	for _, facts := range lists {
		for i, q := range smallQueries() {
			if len(q.Atoms) != 2 {
				continue
			}
			without := query(nil, q.Atoms[0])
			for _, v := range q.Head {
				if slices.Contains(impl.VarsOf(without), v) {
					without.Head = append(without.Head, v)
				}
			}
			inner := query(without.Head, q.Atoms...)
			few := facts[:min(i%4, len(facts))]
			for _, pair := range [][2][][]int{
				{impl.AnswersOf([]int{2, 1}, inner, facts), impl.AnswersOf([]int{2, 1}, without, facts)},
				{impl.AnswersOf([]int{2, 1}, q, few), impl.AnswersOf([]int{2, 1}, q, facts)},
			} {
				for _, tuple := range pair[0] {
					if !slices.ContainsFunc(pair[1], func(other []int) bool { return slices.Equal(tuple, other) }) {
						t.Fatalf("%s, %v: %v is an answer, but none of %v", impl.FormatQuery(q), facts, tuple, pair[1])
					}
				}
			}
		}
	}
}

func TestAnswersOfInvalid(t *testing.T) {
	s := []int{2, 1}
	facts := []impl.Fact{fact(0, 1, 2), fact(1, 2)}
	q := query([]int{10}, atom(0, 1, 10))
	a := atom(1, 10)
	if got := impl.AnswersOf(s, q, facts); !equalTuples(got, [][]int{{2}}) {
		t.Errorf("the valid query has the answers %v", got)
	}
	for why, c := range map[string]struct {
		s     []int
		q     impl.Query
		facts []impl.Fact
	}{
		"no schema":                   {nil, q, facts},
		"a schema that is not valid":  {[]int{2, 1, 4}, q, facts},
		"too many relations":          {[]int{2, 1, 1, 1}, q, facts},
		"facts of another schema":     {[]int{2}, q, facts},
		"atoms of another schema":     {[]int{1, 2}, q, nil},
		"no atoms":                    {s, impl.Query{}, facts},
		"no atoms and no facts":       {s, impl.Query{}, nil},
		"too many atoms":              {s, query(nil, a, a, a, a, a), facts},
		"too many head elements":      {s, query([]int{10, 10, 10, 10}, a), facts},
		"a head of other variables":   {s, query([]int{11}, a), facts},
		"a constant in the head":      {s, query([]int{2}, atom(1, 2)), facts},
		"an atom with too few terms":  {s, query(nil, atom(0, 1)), facts},
		"an atom of no relation":      {s, query(nil, atom(2, 1)), facts},
		"a term that is not valid":    {s, query([]int{10}, atom(0, 18, 10)), facts},
		"facts not ascending":         {s, q, []impl.Fact{fact(1, 2), fact(0, 1, 2)}},
		"a fact twice":                {s, q, []impl.Fact{fact(0, 1, 2), fact(0, 1, 2)}},
		"a fact with too few values":  {s, q, []impl.Fact{fact(0, 1, 2), fact(1)}},
		"a fact with a value too big": {s, q, []impl.Fact{fact(0, 1, 2), fact(1, 10)}},
		"a fact with a negative one":  {s, q, []impl.Fact{fact(0, -1, 2), fact(0, 1, 2)}},
		"a fact of no relation":       {s, q, []impl.Fact{fact(0, 1, 2), fact(2, 1)}},
		"too many facts":              {[]int{3}, query([]int{10}, atom(0, 10, 11, 12)), append(triples(), fact(0, 9, 9, 9))},
	} {
		if got := impl.AnswersOf(c.s, c.q, c.facts); len(got) != 0 {
			t.Errorf("%s: AnswersOf(%v, %v, %v) = %v", why, c.s, c.q, c.facts, got)
		}
	}
}

// answersByChoice goes through all lists of one fact for each atom.
func answersByChoice(q impl.Query, facts []impl.Fact) [][]int {
	count := 1
	for range q.Atoms {
		count *= len(facts)
	}
	var found [][]int
	for code := range count {
		values := map[int]int{}
		holds := true
		for _, a := range q.Atoms {
			f := facts[code%len(facts)]
			code /= len(facts)
			for k, term := range a.Terms {
				known, ok := values[term]
				holds = holds && (!ok || known == f.Values[k])
				values[term] = f.Values[k]
			}
			if !holds {
				break
			}
		}
		if !holds {
			continue
		}
		var head []int
		for _, term := range q.Head {
			head = append(head, values[term])
		}
		found = append(found, head)
	}
	slices.SortFunc(found, slices.Compare)
	return slices.CompactFunc(found, slices.Equal)
}

// As many atoms and facts as there may be; the queries have no constants.
func TestAnswersOfAtTheLimits(t *testing.T) {
	for _, q := range []impl.Query{
		query([]int{10, 12, 14}, atom(0, 10, 11, 16), atom(0, 12, 13, 16), atom(0, 14, 15, 17), atom(0, 10, 11, 17)),
		query([]int{10, 11, 12}, atom(0, 10, 13, 14), atom(0, 11, 13, 14), atom(0, 12, 15, 16), atom(0, 17, 17, 17)),
		query([]int{17}, atom(0, 10, 11, 12), atom(0, 13, 14, 15), atom(0, 10, 16, 17), atom(0, 13, 14, 15)),
		query(nil, atom(0, 10, 10, 11), atom(0, 11, 10, 12), atom(0, 12, 12, 13), atom(0, 17, 13, 13)),
	} {
		if got, want := impl.AnswersOf([]int{3}, q, triples()), answersByChoice(q, triples()); !equalTuples(got, want) || len(got) == 0 {
			t.Errorf("%s: %v, want %v", impl.FormatQuery(q), got, want)
		}
	}
}

// Every list of three values is an answer, for many of the 24^4 bindings.
func TestAllAnswers(t *testing.T) {
	var pairs []impl.Fact
	for n := range 24 {
		pairs = append(pairs, fact(0, n/10, n%10))
	}
	q := query([]int{11, 13, 15}, atom(0, 10, 11), atom(0, 12, 13), atom(0, 14, 15), atom(0, 16, 17))
	got := impl.AnswersOf([]int{2}, q, pairs)
	for i, tuple := range got {
		if !slices.Equal(tuple, []int{i / 100, i / 10 % 10, i % 10}) {
			t.Fatalf("answer %d is %v", i, tuple)
		}
	}
	if len(got) != 1000 {
		t.Errorf("%d answers", len(got))
	}
}

func TestAddTuple(t *testing.T) {
	for why, c := range map[string]struct {
		l    [][]int
		t    []int
		want [][]int
	}{
		"to none":                       {nil, []int{1}, [][]int{{1}}},
		"an empty one to none":          {nil, nil, [][]int{{}}},
		"at the front":                  {[][]int{{2}, {3}}, []int{1}, [][]int{{1}, {2}, {3}}},
		"between":                       {[][]int{{1, 2}, {3}}, []int{2}, [][]int{{1, 2}, {2}, {3}}},
		"at the end":                    {[][]int{{2}, {3}}, []int{3, 0}, [][]int{{2}, {3}, {3, 0}}},
		"an empty one":                  {[][]int{{-4}, {3}}, nil, [][]int{{}, {-4}, {3}}},
		"there at the front":            {[][]int{{2}, {3}}, []int{2}, [][]int{{2}, {3}}},
		"there at the end":              {[][]int{{2}, {3}}, []int{3}, [][]int{{2}, {3}}},
		"an empty one that is there":    {[][]int{nil, {3}}, []int{}, [][]int{{}, {3}}},
		"there behind a greater one":    {[][]int{{7}, {2}}, []int{2}, [][]int{{7}, {2}}},
		"there twice":                   {[][]int{{2}, {2}}, []int{2}, [][]int{{2}, {2}}},
		"before the first greater one":  {[][]int{{5}, {1}, {7}}, []int{3}, [][]int{{3}, {5}, {1}, {7}}},
		"behind all, none greater":      {[][]int{{5}, {1}}, []int{6}, [][]int{{5}, {1}, {6}}},
		"longer than the one it begins": {[][]int{{1, 2, 3, 4}}, []int{1, 2, 3}, [][]int{{1, 2, 3}, {1, 2, 3, 4}}},
		"shorter, but greater":          {[][]int{{1, 2, 3, 4}}, []int{1, 3}, [][]int{{1, 2, 3, 4}, {1, 3}}},
	} {
		if got := impl.AddTuple(c.l, c.t); !equalTuples(got, c.want) {
			t.Errorf("%s: AddTuple(%v, %v) = %v, want %v", why, c.l, c.t, got, c.want)
		}
	}
}

// Lists that are added in any order, and again, make one ascending list.
func TestAddTupleSorts(t *testing.T) {
	want := someTuples()
	for step := 1; step < len(want); step++ {
		for start := range want {
			var l [][]int
			for i := range 2 * len(want) {
				l = impl.AddTuple(l, want[(start+i*step)%len(want)])
			}
			for i := range l {
				if i > 0 && slices.Compare(l[i-1], l[i]) >= 0 {
					t.Fatalf("step %d: %v", step, l)
				}
			}
			for _, tuple := range want {
				l = impl.AddTuple(l, tuple)
			}
			if !equalTuples(l, want) {
				t.Fatalf("step %d: %v", step, l)
			}
		}
	}
}

func TestSameTuples(t *testing.T) {
	checkSameLists(t, someTuples(), someTuples(), impl.SameTuples)
	if !impl.SameTuples([][]int{nil}, [][]int{{}}) {
		t.Error("a nil list and an empty one differ")
	}
	if impl.SameTuples([][]int{{1, 2}}, [][]int{{2, 1}}) || impl.SameTuples([][]int{{1, 2}}, [][]int{{1}, {2}}) {
		t.Error("the order does not count")
	}
}

func TestFormatTuples(t *testing.T) {
	for _, c := range []struct {
		l    [][]int
		want string
	}{
		{nil, "none"},
		{[][]int{}, "none"},
		{[][]int{nil}, "()"},
		{[][]int{{}, {}}, "() ()"},
		{[][]int{{7}}, "(7)"},
		{[][]int{{1, 2}, {2}, {3}}, "(1,2) (2) (3)"},
		{[][]int{{3}, {1, 2, 3, 4}, {3}}, "(3) (1,2,3,4) (3)"},
		{[][]int{{-1, 10}, {}, {math.MinInt}}, "(-1,10) () (-9223372036854775808)"},
	} {
		if got := impl.FormatTuples(c.l); got != c.want {
			t.Errorf("FormatTuples(%v) = %q, want %q", c.l, got, c.want)
		}
	}
}

// AddTuple gets a list with spare capacity, of lists with spare capacity.
func TestAddTupleLeavesArguments(t *testing.T) {
	for _, n := range []int{0, 2, 4, 9} {
		numbers := []int{2, 77, 4, 77, 6, 77, n, 77}
		space := [][]int{numbers[0:1], numbers[2:3], numbers[4:5], {8}, {9}}
		numbersBefore, spaceBefore := slices.Clone(numbers), copyTuples(space)
		got := impl.AddTuple(space[:3], numbers[6:7])
		want := copyTuples(got)
		if !slices.Equal(numbers, numbersBefore) || !reflect.DeepEqual(space, spaceBefore) {
			t.Errorf("adding %d changes its arguments to %v and %v", n, space, numbers)
		}
		for i := range numbers {
			numbers[i] = -5
		}
		for i := range space {
			space[i] = []int{-6}
		}
		if !equalTuples(got, want) {
			t.Errorf("adding %d: the result changes with the arguments to %v", n, got)
		}
		checkTuplesApart(t, got)
	}
}

// checkTuplesApart changes the lists of a result one after the other, and what is behind them.
func checkTuplesApart(t *testing.T, got [][]int) {
	t.Helper()
	want := copyTuples(got)
	for i := range got {
		_ = append(got[i], -8)
		for k := range got[i] {
			got[i][k], want[i][k] = -9, -9
		}
		if !equalTuples(got, want) {
			t.Errorf("lists of the result share memory: %v", got)
		}
	}
}

// checkBindingsApart does the same, and checks that numbers, of which the arguments of the call consist, do not change.
func checkBindingsApart(t *testing.T, got []impl.Binding, numbers []int) {
	t.Helper()
	before := slices.Clone(numbers)
	var lists [][]int
	for _, b := range got {
		lists = append(lists, b.Vars, b.Values)
	}
	checkTuplesApart(t, lists)
	if !slices.Equal(numbers, before) {
		t.Errorf("the arguments change with the result to %v", numbers)
	}
}

func TestMatchAtomLeavesArguments(t *testing.T) {
	numbers := []int{10, 77, 2, 77, 10, 11, 77, 2, 3, 77}
	b, a, f := binding(numbers[0:1], numbers[2:3]), atom(0, numbers[4:6]...), fact(0, numbers[7:9]...)
	before := slices.Clone(numbers)
	added, _ := impl.MatchAtom(b, a, f)
	known, ok := impl.MatchAtom(b, atom(0, numbers[4]), fact(0, 2))
	if !slices.Equal(numbers, before) || !ok || len(added.Vars) != 2 || len(known.Vars) != 1 {
		t.Errorf("%v and %v; the arguments change to %v", added, known, numbers)
	}
	checkBindingsApart(t, []impl.Binding{added, known}, numbers)
}

func TestBindingsAndAnswersLeaveArguments(t *testing.T) {
	numbers := []int{11, 10, 77, 10, 11, 77, 12, 77, 1, 2, 77, 3, 4, 77, 5, 77}
	schema := []int{2, 1, 77}
	atoms := []impl.Atom{atom(0, numbers[3:5]...), atom(1, numbers[6:7]...), atom(7, 7)}
	facts := []impl.Fact{fact(0, numbers[8:10]...), fact(0, numbers[11:13]...), fact(1, numbers[14:15]...), fact(9, 9)}
	q := impl.Query{Head: numbers[:2], Atoms: atoms[:2]}
	numbersBefore, atomsBefore, factsBefore := slices.Clone(numbers), copyQuery(query(nil, atoms...)).Atoms, deepCopy(facts)
	bindings := impl.BindingsOf(q, facts[:3])
	answers := impl.AnswersOf(schema[:2], q, facts[:3])
	if !equalTuples(answers, [][]int{{2, 1}, {4, 3}}) || len(bindings) != 2 {
		t.Errorf("%v and %v", answers, bindings)
	}
	if !slices.Equal(numbers, numbersBefore) || !slices.Equal(schema, []int{2, 1, 77}) || !reflect.DeepEqual(atoms, atomsBefore) || !reflect.DeepEqual(facts, factsBefore) {
		t.Errorf("arguments change to %v, %v, %v and %v", schema, numbers, atoms, facts)
	}
	checkBindingsApart(t, bindings, numbers)
	checkTuplesApart(t, answers)
	if !slices.Equal(numbers, numbersBefore) || len(impl.BindingsOf(q, facts[:3])) != 2 || !equalTuples(impl.AnswersOf(schema[:2], q, facts[:3]), [][]int{{2, 1}, {4, 3}}) {
		t.Error("a result keeps memory of the one before")
	}
}
