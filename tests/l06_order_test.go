package tests

import (
	"cmp"
	"math"
	"reflect"
	"slices"
	"testing"

	"loop.example/g01989/impl"
)

// steps takes an atom and a method for each step.
func steps(numbers ...int) []impl.Step {
	var l []impl.Step
	for pair := range slices.Chunk(numbers, 2) {
		l = append(l, impl.Step{Atom: pair[0], Method: pair[1]})
	}
	return l
}

// isKnownByHand and isOrderByHand tell without the program whether a call is possible, and whether steps for valid methods and a valid query are an order.
func isKnownByHand(m impl.Method, a impl.Atom, before []impl.Atom) bool {
	if m.Rel != a.Rel {
		return false
	}
	for _, at := range m.Inputs {
		t := a.Terms[at]
		isBound := slices.ContainsFunc(before, func(b impl.Atom) bool { return slices.Contains(b.Terms, t) })
		if t >= 10 && !isBound {
			return false
		}
	}
	return true
}

func isOrderByHand(l []impl.Method, q impl.Query, order []impl.Step) bool {
	var before []impl.Atom
	called := map[int]bool{}
	for _, s := range order {
		if s.Atom < 0 || s.Atom >= len(q.Atoms) || s.Method < 0 || s.Method >= len(l) || called[s.Atom] || !isKnownByHand(l[s.Method], q.Atoms[s.Atom], before) {
			return false
		}
		called[s.Atom] = true
		before = append(before, q.Atoms[s.Atom])
	}
	return len(order) == len(q.Atoms)
}

// ordersByTrial tries all lists of steps, in the order of the document.
func ordersByTrial(l []impl.Method, q impl.Query) [][]impl.Step {
	lists := [][]impl.Step{nil}
	for range q.Atoms {
		var longer [][]impl.Step
		for _, list := range lists {
			for atom := range q.Atoms {
				for m := range l {
					longer = append(longer, append(slices.Clone(list), impl.Step{Atom: atom, Method: m}))
				}
			}
		}
		lists = longer
	}
	return slices.DeleteFunc(lists, func(list []impl.Step) bool { return !isOrderByHand(l, q, list) })
}

func costByHand(l []impl.Method, order []impl.Step) int {
	cost := 0
	for _, s := range order {
		cost += l[s.Method].Cost
	}
	return cost
}

// cheapestByTrial is nil if there is no order.
func cheapestByTrial(l []impl.Method, q impl.Query) []impl.Step {
	all := ordersByTrial(l, q)
	if len(all) == 0 {
		return nil
	}
	return slices.MinFunc(all, func(a, b []impl.Step) int { return cmp.Compare(costByHand(l, a), costByHand(l, b)) })
}

// firstByHand follows the document's description of FindOrder; it returns the steps and the atoms that get none.
func firstByHand(l []impl.Method, q impl.Query) ([]impl.Step, []int) {
	var order []impl.Step
	var before []impl.Atom
	blocked := []int{0, 1, 2, 3}[:len(q.Atoms)]
	for again := true; again; {
		again = false
		for i, atom := range blocked {
			m := slices.IndexFunc(l, func(m impl.Method) bool { return isKnownByHand(m, q.Atoms[atom], before) })
			if m >= 0 {
				order = append(order, impl.Step{Atom: atom, Method: m})
				before = append(before, q.Atoms[atom])
				blocked = slices.Delete(blocked, i, i+1)
				again = true
				break
			}
		}
	}
	return order, blocked
}

// orderMethods are lists of none to two methods of all kinds for the schema 2, 1, and some longer ones.
func orderMethods() [][]impl.Method {
	kinds := []impl.Method{method(0, nil, 0, 7, 1), method(0, []int{0}, 0, 2, 5), method(0, []int{1}, 1, 2, 5), method(0, []int{0, 1}, 0, 0, 1), method(1, nil, 0, 1, 9), method(1, []int{0}, 3, 3, 9)}
	lists := [][]impl.Method{nil, kinds[1:5], {kinds[5], kinds[1], kinds[2]}, {kinds[4], kinds[4], kinds[2], kinds[1], kinds[0]}}
	for _, a := range kinds {
		lists = append(lists, []impl.Method{a})
		for _, b := range kinds {
			lists = append(lists, []impl.Method{a, b})
		}
	}
	return lists
}

// orderQueries are queries of one to three atoms for the schema 2, 1, and some of four; the head does not matter for orders.
func orderQueries() []impl.Query {
	var atoms []impl.Atom
	for _, x := range []int{1, 10, 11} {
		atoms = append(atoms, atom(1, x), atom(0, x, 1), atom(0, x, 10), atom(0, x, 11))
	}
	all := []impl.Query{query([]int{13}, atom(0, 10, 11), atom(0, 11, 12), atom(0, 12, 13), atom(1, 10)), query(nil, atom(0, 10, 11), atom(1, 12), atom(0, 12, 10), atom(0, 13, 13))}
	for i, a := range atoms {
		all = append(all, query(nil, a))
		for k, b := range atoms {
			all = append(all, query(nil, a, b))
			if (i+k)%3 == 0 {
				all = append(all, query(nil, a, b, atoms[(i+2*k)%len(atoms)]), query(nil, atoms[(5*i+k)%len(atoms)], a, b))
			}
		}
	}
	return all
}

func TestCanCall(t *testing.T) {
	for _, c := range []struct {
		m     impl.Method
		a     impl.Atom
		bound []int
		want  bool
	}{
		{method(0, []int{0}, 0, 2, 5), atom(0, 1, 10), nil, true},
		{method(0, []int{0}, 0, 2, 5), atom(0, 9, 10), nil, true},
		{method(0, []int{1}, 0, 2, 5), atom(0, 1, 10), nil, false},
		{method(0, []int{1}, 0, 2, 5), atom(0, 1, 10), []int{10}, true},
		{method(0, []int{1}, 0, 2, 5), atom(0, 1, 10), []int{11, 12}, false},
		{method(0, []int{1}, 0, 2, 5), atom(0, 1, 10), []int{11, 12, 10}, true},
		{method(0, []int{0, 1}, 0, 2, 5), atom(0, 10, 11), []int{10, 11}, true},
		{method(0, []int{0, 1}, 0, 2, 5), atom(0, 10, 11), []int{10}, false},
		{method(0, []int{0, 1}, 0, 2, 5), atom(0, 10, 11), []int{11}, false},
		{method(0, []int{0, 1}, 0, 2, 5), atom(0, 10, 10), []int{10}, true},
		{method(0, []int{0}, 0, 2, 5), atom(0, 10, 10), nil, false},
		{method(0, []int{0, 2}, 0, 2, 5), atom(0, 10, 11, 3), []int{10}, true},
		{method(0, []int{0, 2}, 0, 2, 5), atom(0, 3, 11, 10), []int{11}, false},
		{method(0, nil, 0, 2, 5), atom(0, 10, 11), nil, true},
		{method(0, []int{}, 0, 2, 5), atom(0, 10, 11), nil, true},
		{method(0, nil, 0, 2, 5), atom(1, 10, 11), nil, false},
		{method(1, []int{0}, 0, 2, 5), atom(0, 1), nil, false},
		{method(0, []int{0}, 0, 2, 5), atom(0, 17), nil, false},
		{method(0, []int{0}, 0, 2, 5), atom(0, 17), []int{17}, true},
		// Numbers that are no terms need not be bound.
		{method(0, []int{0}, 0, 2, 5), atom(0, 18), nil, true},
		{method(0, []int{0}, 0, 2, 5), atom(0, -1), nil, true},
		{method(0, []int{0, 1}, 0, 2, 5), atom(0, math.MinInt, math.MaxInt), nil, true},
		// Inputs that are no positions.
		{method(0, []int{2}, 0, 2, 5), atom(0, 1, 1), nil, false},
		{method(0, []int{0, 2}, 0, 2, 5), atom(0, 1, 1), nil, false},
		{method(0, []int{-1}, 0, 2, 5), atom(0, 1, 1), nil, false},
		{method(0, []int{math.MinInt, 0}, 0, 2, 5), atom(0, 1, 1), nil, false},
		{method(0, []int{math.MaxInt}, 0, 2, 5), atom(0, 1, 1), nil, false},
		{method(0, []int{0}, 0, 2, 5), atom(0), nil, false},
		// Only the relation and the inputs of the method count, and a relation need not be one of a schema.
		{method(-1, []int{1, 0, 1}, -1, -1, -1), atom(-1, 1, 10), []int{10}, true},
		{method(-1, []int{1, 0, 1}, -1, -1, -1), atom(-1, 1, 10), nil, false},
		{method(math.MaxInt, nil, 0, 0, 0), atom(math.MaxInt), nil, true},
		{method(math.MaxInt, nil, 0, 0, 0), atom(math.MinInt), nil, false},
		{method(0, []int{3, 4}, 0, 2, 5), atom(0, 10, 10, 10, 10, 1), []int{10}, true},
	} {
		if got := impl.CanCall(c.m, c.a, c.bound); got != c.want {
			t.Errorf("CanCall(%v, %v, %v) = %v", c.m, c.a, c.bound, got)
		}
	}
}

// orderCalls are r0 by its first value, all of r1, and r0 by its second value with at most one fact.
func orderCalls() []impl.Method {
	return []impl.Method{method(0, []int{0}, 0, 2, 5), method(1, nil, 0, 1, 9), method(0, []int{1}, 1, 1, 2)}
}

func TestIsOrder(t *testing.T) {
	s, l := []int{2, 1}, orderCalls()
	q := query([]int{10}, atom(0, 1, 10), atom(1, 10))
	chain := query(nil, atom(0, 11, 12), atom(0, 10, 11), atom(1, 10))
	for why, c := range map[string]struct {
		s     []int
		l     []impl.Method
		q     impl.Query
		steps []impl.Step
		want  bool
	}{
		"a constant as the input":           {s, l, q, steps(0, 0, 1, 1), true},
		"in the other order":                {s, l, q, steps(1, 1, 0, 0), true},
		"a variable of an atom before":      {s, l, q, steps(1, 1, 0, 2), true},
		"a variable of an atom behind":      {s, l, q, steps(0, 2, 1, 1), false},
		"a chain":                           {s, l, chain, steps(2, 1, 1, 0, 0, 0), true},
		"a chain in a wrong order":          {s, l, chain, steps(2, 1, 0, 0, 1, 0), false},
		"a variable of the atom itself":     {s, l, query(nil, atom(0, 10, 10)), steps(0, 0), false},
		"atoms in a circle":                 {s, l[:1], query(nil, atom(0, 10, 11), atom(0, 11, 10)), steps(0, 0, 1, 0), false},
		"a circle that is entered":          {s, l, query(nil, atom(0, 10, 11), atom(0, 11, 10), atom(1, 11)), steps(2, 1, 1, 0, 0, 0), true},
		"the same atom twice in the query":  {s, l, query(nil, atom(1, 10), atom(1, 10)), steps(1, 1, 0, 1), true},
		"a method of another relation":      {s, l, q, steps(0, 1, 1, 1), false},
		"no steps":                          {s, l, q, nil, false},
		"a step is missing":                 {s, l, q, steps(0, 0), false},
		"an atom twice, the other missing":  {s, l, q, steps(0, 0, 0, 0), false},
		"an atom twice":                     {s, l, q, steps(0, 0, 1, 1, 0, 0), false},
		"one more step, of no atom":         {s, l, q, steps(0, 0, 1, 1, 2, 1), false},
		"an atom that does not exist":       {s, l, q, steps(0, 0, 2, 1), false},
		"a negative atom":                   {s, l, q, steps(0, 0, -1, 1), false},
		"the greatest atom":                 {s, l, q, steps(math.MaxInt, 0, 1, 1), false},
		"the least atom":                    {s, l, q, steps(0, 0, math.MinInt, 1), false},
		"a method that does not exist":      {s, l, q, steps(0, 3, 1, 1), false},
		"a negative method":                 {s, l, q, steps(0, 0, 1, -1), false},
		"the greatest method":               {s, l, q, steps(0, math.MaxInt, 1, 1), false},
		"the least method":                  {s, l, q, steps(0, math.MinInt, 1, 1), false},
		"no methods":                        {s, nil, q, steps(0, 0, 1, 1), false},
		"a method that is not valid":        {s, append(orderCalls(), impl.Method{}), q, steps(0, 0, 1, 1), false},
		"too many methods":                  {s, slices.Concat(l, l), q, steps(0, 0, 1, 1), false},
		"no query":                          {s, l, impl.Query{}, nil, false},
		"a query with a wrong head":         {s, l, query([]int{11}, q.Atoms...), steps(0, 0, 1, 1), false},
		"a query with a number for a term":  {s, l, query(nil, atom(0, 18, 10), atom(1, 10)), steps(0, 0, 1, 1), false},
		"a query of too many atoms":         {s, l, query(nil, atom(1, 1), atom(1, 1), atom(1, 1), atom(1, 1), atom(1, 1)), steps(0, 1, 1, 1, 2, 1, 3, 1, 4, 1), false},
		"a query of as many as are allowed": {s, l, query(nil, atom(1, 1), atom(1, 1), atom(1, 1), atom(1, 1)), steps(3, 1, 1, 1, 2, 1, 0, 1), true},
		"no schema":                         {nil, l, q, steps(0, 0, 1, 1), false},
		"a schema that is not valid":        {[]int{2, 1, 4}, l, q, steps(0, 0, 1, 1), false},
		"another schema":                    {[]int{2, 2}, l, q, steps(0, 0, 1, 1), false},
	} {
		if got := impl.IsOrder(c.s, c.l, c.q, c.steps); got != c.want {
			t.Errorf("%s: IsOrder(%v, %v, %v, %v) = %v", why, c.s, c.l, c.q, c.steps, got)
		}
	}
}

func TestFindOrder(t *testing.T) {
	l := orderCalls()
	for why, c := range map[string]struct {
		l       []impl.Method
		q       impl.Query
		want    []impl.Step
		blocked []int
	}{
		"the first atom first":                 {l, query([]int{10}, atom(0, 1, 10), atom(1, 10)), steps(0, 0, 1, 1), nil},
		"the first method, not the cheapest":   {[]impl.Method{l[1], l[0], l[2]}, query(nil, atom(0, 1, 1)), steps(0, 1), nil},
		"a later method, the first not known":  {l, query(nil, atom(0, 10, 1)), steps(0, 2), nil},
		"back to an atom that was not known":   {l, query(nil, atom(0, 10, 11), atom(1, 10), atom(1, 12)), steps(1, 1, 0, 0, 2, 1), nil},
		"backwards":                            {l[:2], query(nil, atom(0, 12, 13), atom(0, 11, 12), atom(0, 10, 11), atom(1, 10)), steps(3, 1, 2, 0, 1, 0, 0, 0), nil},
		"an atom without a known input":        {l, query([]int{10, 11}, atom(0, 10, 11)), nil, []int{0}},
		"one without, in the middle":           {l, query(nil, atom(1, 10), atom(0, 11, 12), atom(1, 13)), nil, []int{1}},
		"a relation without a method":          {l[1:2], query(nil, atom(0, 1, 2), atom(1, 3)), nil, []int{0}},
		"no methods":                           {nil, query(nil, atom(0, 1, 2), atom(1, 3)), nil, []int{0, 1}},
		"a circle of two":                      {l[:1], query(nil, atom(0, 10, 11), atom(0, 11, 10)), nil, []int{0, 1}},
		"a circle of two that needs either":    {l, query(nil, atom(0, 10, 11), atom(0, 11, 10)), nil, []int{0, 1}},
		"a circle of one":                      {l, query(nil, atom(0, 10, 10)), nil, []int{0}},
		"a circle of three":                    {l[:1], query(nil, atom(0, 10, 11), atom(0, 11, 12), atom(0, 12, 10)), nil, []int{0, 1, 2}},
		"a circle of four":                     {l, query(nil, atom(0, 10, 11), atom(0, 12, 13), atom(0, 11, 12), atom(0, 13, 10)), nil, []int{0, 1, 2, 3}},
		"a circle of three that is entered":    {l[:2], query(nil, atom(0, 10, 11), atom(0, 11, 12), atom(0, 12, 10), atom(1, 12)), steps(3, 1, 2, 0, 0, 0, 1, 0), nil},
		"a circle that a constant opens":       {l[:1], query(nil, atom(0, 10, 11), atom(0, 11, 10), atom(0, 3, 11)), steps(2, 0, 1, 0, 0, 0), nil},
		"a circle that hangs on an order":      {l[:2], query(nil, atom(0, 11, 12), atom(1, 10), atom(0, 12, 11), atom(0, 10, 13)), nil, []int{0, 2}},
		"a circle, and what needs it":          {l[:2], query(nil, atom(0, 12, 13), atom(0, 10, 11), atom(0, 11, 10), atom(0, 11, 12)), nil, []int{0, 1, 2, 3}},
		"the method that goes round it":        {append(orderCalls(), method(0, nil, 9, 9, 9)), query(nil, atom(0, 10, 11), atom(0, 11, 10)), steps(0, 3, 1, 0), nil},
		"both inputs, each of another atom":    {[]impl.Method{method(0, []int{0, 1}, 0, 0, 1), l[1]}, query(nil, atom(0, 10, 11), atom(1, 11), atom(1, 10)), steps(1, 1, 2, 1, 0, 0), nil},
		"both inputs, one of which is missing": {[]impl.Method{method(0, []int{0, 1}, 0, 0, 1), l[1]}, query(nil, atom(0, 10, 11), atom(1, 11)), nil, []int{0}},
	} {
		got, ok := impl.FindOrder([]int{2, 1}, c.l, c.q)
		if ok != (c.want != nil) || !slices.Equal(got, c.want) {
			t.Errorf("%s: FindOrder(%v, %v) = %v, %v, want %v", why, c.l, c.q, got, ok, c.want)
		}
		if blocked := impl.BlockedAtoms([]int{2, 1}, c.l, c.q); !slices.Equal(blocked, c.blocked) {
			t.Errorf("%s: BlockedAtoms(%v, %v) = %v, want %v", why, c.l, c.q, blocked, c.blocked)
		}
	}
}

// A circle of any kind, of which each atom needs the one before, has no order until some atom of it can be called without.
func TestOrdersOfCircles(t *testing.T) {
	s := []int{2, 1}
	for size := 1; size <= 4; size++ {
		for direction := range 2 {
			l := []impl.Method{method(0, []int{direction}, 0, 1, 1)}
			var q impl.Query
			for i := range size {
				q.Atoms = append(q.Atoms, atom(0, 10+i, 10+(i+1)%size))
			}
			order, ok := impl.FindOrder(s, l, q)
			cheapest, cost, isThere := impl.CheapestOrder(s, l, q)
			if ok || isThere || len(order) > 0 || len(cheapest) > 0 || cost != 0 || len(impl.BlockedAtoms(s, l, q)) != size {
				t.Errorf("a circle of %d: %v, %v at %d", size, order, cheapest, cost)
			}
			for i := range size {
				open := copyQuery(q)
				open.Atoms[i].Terms[direction] = 5
				order, ok := impl.FindOrder(s, l, open)
				if !ok || order[0].Atom != i || !isOrderByHand(l, open, order) || len(impl.BlockedAtoms(s, l, open)) != 0 {
					t.Errorf("a circle of %d that is open at %d: %v, %v", size, i, order, ok)
				}
			}
		}
	}
}

func TestCheapestOrder(t *testing.T) {
	l := orderCalls()
	alike := []impl.Method{method(1, nil, 0, 3, 1), method(1, nil, 2, 3, 1), method(1, []int{0}, 0, 3, 1)}
	for why, c := range map[string]struct {
		l    []impl.Method
		q    impl.Query
		want []impl.Step
		cost int
	}{
		"not what FindOrder finds":        {l, query([]int{10}, atom(0, 1, 10), atom(1, 10)), steps(1, 1, 0, 2), 2},
		"only one":                        {l, query(nil, atom(0, 1, 10)), steps(0, 0), 2},
		"a later method":                  {l, query(nil, atom(0, 1, 1)), steps(0, 2), 1},
		"the first of equal ones":         {alike, query(nil, atom(1, 1), atom(1, 1)), steps(0, 0, 1, 0), 6},
		"the first atom of equal orders":  {alike, query(nil, atom(1, 10), atom(1, 10), atom(1, 11)), steps(0, 0, 1, 0, 2, 0), 9},
		"a cheap method that comes later": {[]impl.Method{method(1, nil, 0, 3, 1), method(1, []int{0}, 0, 0, 1)}, query(nil, atom(1, 10), atom(1, 10), atom(1, 10)), steps(0, 0, 1, 1, 2, 1), 3},
		"free of cost":                    {[]impl.Method{method(1, nil, 0, 0, 1)}, query(nil, atom(1, 10), atom(1, 11)), steps(0, 0, 1, 0), 0},
		"as dear as can be":               {[]impl.Method{method(1, nil, 0, 99, 1)}, query(nil, atom(1, 10), atom(1, 11), atom(1, 12), atom(1, 13)), steps(0, 0, 1, 0, 2, 0, 3, 0), 396},
		"a dear step that saves others":   {[]impl.Method{method(0, []int{0}, 0, 9, 1), method(0, []int{1}, 0, 1, 1), method(1, nil, 0, 5, 1)}, query(nil, atom(0, 1, 10), atom(0, 11, 10), atom(1, 10)), steps(2, 2, 0, 1, 1, 1), 7},
	} {
		got, cost, ok := impl.CheapestOrder([]int{2, 1}, c.l, c.q)
		if !ok || cost != c.cost || !slices.Equal(got, c.want) {
			t.Errorf("%s: CheapestOrder(%v, %v) = %v, %d, %v", why, c.l, c.q, got, cost, ok)
		}
	}
}

// Whatever the methods and the query: an order is found exactly if some list of steps is one, by the document's way, and the cheapest is the least of all lists.
func TestOrdersAreFoundExactlyIfThereIsOne(t *testing.T) {
	s := []int{2, 1}
	found, blocked := 0, 0
	for _, l := range orderMethods() {
		for _, q := range orderQueries() {
			first, missing := firstByHand(l, q)
			cheapest := cheapestByTrial(l, q)
			if (len(missing) == 0) != (cheapest != nil) {
				t.Fatalf("the tests contradict each other for %v and %v", l, q)
			}
			if len(missing) > 0 {
				first = nil
				blocked++
			} else {
				found++
			}
			got, ok := impl.FindOrder(s, l, q)
			if ok != (cheapest != nil) || !slices.Equal(got, first) || ok && !impl.IsOrder(s, l, q, got) {
				t.Fatalf("FindOrder(%v, %v) = %v, %v, want %v", l, q, got, ok, first)
			}
			if atoms := impl.BlockedAtoms(s, l, q); !slices.Equal(atoms, missing) {
				t.Fatalf("BlockedAtoms(%v, %v) = %v, want %v", l, q, atoms, missing)
			}
			best, cost, ok := impl.CheapestOrder(s, l, q)
			if ok != (cheapest != nil) || !slices.Equal(best, cheapest) || cost != costByHand(l, cheapest) || cost != impl.OrderCost(l, best) {
				t.Fatalf("CheapestOrder(%v, %v) = %v, %d, %v, want %v", l, q, best, cost, ok, cheapest)
			}
		}
	}
	if found < 1000 || blocked < 1000 {
		t.Errorf("%d cases with an order and %d without", found, blocked)
	}
}

// All lists of up to three steps, with atoms and methods within and beyond those that exist.
func TestIsOrderAcceptsNothingElse(t *testing.T) {
	l := append(orderCalls(), method(1, []int{0}, 0, 0, 1))
	var all []impl.Step
	for atom := -1; atom <= 3; atom++ {
		for m := -1; m <= 4; m++ {
			all = append(all, impl.Step{Atom: atom, Method: m})
		}
	}
	for _, q := range []impl.Query{query(nil, atom(1, 10)), query(nil, atom(0, 1, 10), atom(1, 10)), query(nil, atom(0, 10, 11), atom(1, 10), atom(0, 12, 11)), query(nil, atom(1, 3), atom(1, 10), atom(1, 10))} {
		check := func(order ...impl.Step) {
			if got := impl.IsOrder([]int{2, 1}, l, q, order); got != isOrderByHand(l, q, order) {
				t.Fatalf("IsOrder(%v, %v) = %v", q, order, got)
			}
		}
		for _, a := range all {
			check(a)
			for _, b := range all {
				check(a, b)
				for _, c := range all {
					check(a, b, c)
				}
			}
		}
	}
}

// question is what an order is asked for.
type question struct {
	s []int
	l []impl.Method
	q impl.Query
}

// invalidQuestions have one thing in each that is not valid; without it, some of them have an order, and the others have blocked atoms.
func invalidQuestions() map[string]question {
	spoils := map[string]func(*question){
		"no schema":                      func(c *question) { c.s = nil },
		"a schema that is not valid":     func(c *question) { c.s = append(c.s, 0) },
		"another schema":                 func(c *question) { c.s = []int{3, 1} },
		"too few relations":              func(c *question) { c.s = c.s[:1] },
		"a method that is not valid":     func(c *question) { c.l = append(c.l, impl.Method{}) },
		"a method with another position": func(c *question) { c.l = append(c.l, method(1, []int{1}, 0, 0, 1)) },
		"a method that is too dear":      func(c *question) { c.l = append(c.l, method(1, nil, 0, 100, 1)) },
		"too many methods":               func(c *question) { c.l = slices.Concat(c.l, c.l) },
		"no atoms":                       func(c *question) { c.q = impl.Query{} },
		"too many atoms":                 func(c *question) { c.q.Atoms = slices.Concat(c.q.Atoms, c.q.Atoms, c.q.Atoms) },
		"a variable only in the head":    func(c *question) { c.q.Head = []int{13} },
		"a constant in the head":         func(c *question) { c.q.Head = []int{1} },
		"too many variables in the head": func(c *question) { c.q.Head = []int{10, 10, 10, 10} },
		"an atom of no relation":         func(c *question) { c.q.Atoms[1].Rel = 2 },
		"an atom with too many terms":    func(c *question) { c.q.Atoms[1].Terms = []int{1, 1} },
		"a number that is no term":       func(c *question) { c.q.Atoms[0].Terms[0] = 18 },
	}
	all := map[string]question{}
	for why, spoil := range spoils {
		ordered := question{[]int{2, 1}, orderCalls(), query([]int{10}, atom(0, 1, 10), atom(1, 10))}
		blocked := question{[]int{2, 1}, orderCalls(), query([]int{10}, atom(0, 11, 10), atom(1, 12))}
		spoil(&ordered)
		spoil(&blocked)
		all[why] = ordered
		all[why+", blocked"] = blocked
	}
	return all
}

func TestOrdersOfInvalid(t *testing.T) {
	for why, c := range invalidQuestions() {
		if order, ok := impl.FindOrder(c.s, c.l, c.q); ok || len(order) > 0 {
			t.Errorf("%s: FindOrder returns %v, %v", why, order, ok)
		}
		if blocked := impl.BlockedAtoms(c.s, c.l, c.q); len(blocked) > 0 {
			t.Errorf("%s: BlockedAtoms returns %v", why, blocked)
		}
		if order, cost, ok := impl.CheapestOrder(c.s, c.l, c.q); ok || cost != 0 || len(order) > 0 {
			t.Errorf("%s: CheapestOrder returns %v, %d, %v", why, order, cost, ok)
		}
		if impl.IsOrder(c.s, c.l, c.q, steps(0, 0, 1, 1)) || impl.IsOrder(c.s, c.l, c.q, nil) {
			t.Errorf("%s: IsOrder returns true", why)
		}
	}
}

func TestOrderCost(t *testing.T) {
	l := []impl.Method{method(0, []int{0}, 0, 2, 5), method(1, nil, 0, 0, 9), method(0, nil, 0, 99, 1), method(0, nil, 0, 100, 1), method(0, nil, 0, -1, 1), method(-7, []int{-7}, -7, 30, -7), method(0, nil, 0, math.MaxInt, 1), method(0, nil, 0, math.MinInt, 1)}
	for _, c := range []struct {
		steps []impl.Step
		want  int
	}{
		{nil, 0},
		{steps(0, 0), 2},
		{steps(0, 0, 1, 1), 2},
		{steps(0, 0, 1, 0), 4},
		{steps(0, 0, 0, 0, 0, 0), 6},
		{steps(0, 2, 1, 0, 2, 2, 3, 2), 299},
		// Methods without a valid cost, and methods that do not exist.
		{steps(0, 3, 1, 0), 2},
		{steps(0, 0, 1, 4), 2},
		{steps(0, 6, 1, 7), 0},
		{steps(0, 8, 1, 0), 2},
		{steps(0, -1, 1, 0), 2},
		{steps(0, math.MaxInt, 1, math.MinInt, 2, 0), 2},
		// Nothing else of a method counts, and no atom does.
		{steps(0, 5), 30},
		{steps(-1, 0, math.MaxInt, 5), 32},
	} {
		if got := impl.OrderCost(l, c.steps); got != c.want {
			t.Errorf("OrderCost(%v) = %d, want %d", c.steps, got, c.want)
		}
	}
	if got := impl.OrderCost(nil, steps(0, 0)); got != 0 {
		t.Errorf("%d without methods", got)
	}
}

func TestFormatOrder(t *testing.T) {
	for _, c := range []struct {
		steps []impl.Step
		want  string
	}{
		{nil, ""},
		{[]impl.Step{}, ""},
		{steps(0, 0, 1, 1), "0/m0 1/m1"},
		{steps(1, 1, 0, 2), "1/m1 0/m2"},
		{steps(3, 4), "3/m4"},
		{steps(0, 0, 0, 0, 0, 0, 0, 0, 0, 0), "0/m0 0/m0 0/m0 0/m0 0/m0"},
		{steps(4, 0), ""},
		{steps(-1, 0), ""},
		{steps(0, 5), ""},
		{steps(0, -1), ""},
		{steps(0, 0, 4, 0), ""},
		{steps(0, 0, 0, 5, 1, 1), ""},
		{steps(math.MaxInt, 0), ""},
		{steps(0, math.MinInt), ""},
	} {
		if got := impl.FormatOrder(c.steps); got != c.want {
			t.Errorf("FormatOrder(%v) = %q, want %q", c.steps, got, c.want)
		}
	}
}

func TestSameSteps(t *testing.T) {
	someSteps := func() []impl.Step {
		return steps(1, 0, 0, 1, 1, 1, 3, 4, 4, 3, -1, 0, 0, -1, 4, 5, math.MaxInt, math.MinInt, math.MinInt, math.MaxInt)
	}
	checkSameLists(t, someSteps(), someSteps(), impl.SameSteps)
}

// All lists have spare capacity with other numbers in it.
func TestOrdersLeaveArguments(t *testing.T) {
	numbers := []int{0, 77, 1, 10, 77, 10, 77, 11, 10, 77, 12, 77, 10, 77}
	schema := []int{2, 1, 77}
	methods := []impl.Method{method(0, numbers[0:1], 0, 2, 5), method(1, nil, 0, 1, 9), method(0, []int{1}, 1, 1, 2), method(7, nil, 7, 7, 7)}
	atoms := []impl.Atom{atom(0, numbers[2:4]...), atom(1, numbers[5:6]...), atom(0, numbers[7:9]...), atom(1, numbers[10:11]...), atom(7, 7)}
	order := steps(1, 1, 0, 2, 2, 2, 3, 1, 7, 7)
	q := impl.Query{Head: numbers[12:13], Atoms: atoms[:4]}
	numbersBefore, methodsBefore, atomsBefore, orderBefore := slices.Clone(numbers), slices.Clone(methods), slices.Clone(atoms), slices.Clone(order)
	check := func(what string) {
		if !slices.Equal(numbers, numbersBefore) || !slices.Equal(schema, []int{2, 1, 77}) || !reflect.DeepEqual(methods, methodsBefore) || !reflect.DeepEqual(atoms, atomsBefore) || !slices.Equal(order, orderBefore) {
			t.Errorf("after %s the arguments are %v, %v, %v, %v and %v", what, schema, numbers, methods, atoms, order)
		}
	}
	first, ok := impl.FindOrder(schema[:2], methods[:3], q)
	cheapest, cost, isThere := impl.CheapestOrder(schema[:2], methods[:3], q)
	blocked := impl.BlockedAtoms(schema[:2], methods[:2], q)
	if !ok || !isThere || cost != 4 || impl.FormatOrder(first) != "0/m0 1/m1 2/m2 3/m1" || !impl.SameSteps(cheapest, order[:4]) || !slices.Equal(blocked, []int{2}) {
		t.Errorf("%v, %v at %d, %v", first, cheapest, cost, blocked)
	}
	if !impl.IsOrder(schema[:2], methods[:3], q, order[:4]) || !impl.CanCall(methods[2], atoms[2], numbers[12:13]) || impl.OrderCost(methods[:3], order[:4]) != 4 {
		t.Error("checks")
	}
	check("the calls")
	for _, l := range [][]impl.Step{first, cheapest} {
		_ = append(l, impl.Step{Atom: -5})
		l[0] = impl.Step{Atom: -6}
	}
	_ = append(blocked, -5)
	blocked[0] = -6
	check("a change of the results")
	if again, ok := impl.FindOrder(schema[:2], methods[:3], q); !ok || impl.FormatOrder(again) != "0/m0 1/m1 2/m2 3/m1" {
		t.Errorf("a result keeps memory of the one before: %v", again)
	}
}
