package tests

import (
	"math"
	"reflect"
	"slices"
	"testing"

	"loop.example/g01989/impl"
)

// equalReached holds nil and empty lists for equal.
func equalReached(a, b impl.Reached) bool {
	sameLogs := slices.EqualFunc(a.Log, b.Log, equalAccesses)
	return sameLogs && equalFacts(a.Facts, b.Facts) && slices.Equal(a.Values, b.Values) && a.Rounds == b.Rounds
}

func copyReached(r impl.Reached) impl.Reached {
	c := impl.Reached{Facts: deepCopy(r.Facts), Values: slices.Clone(r.Values), Rounds: r.Rounds}
	for _, a := range r.Log {
		c.Log = append(c.Log, access(a.Method, slices.Clone(a.Values)...))
	}
	return c
}

// openByHand goes through all lists of values, without the program, and keeps those that may be passed.
func openByHand(l []impl.Method, values []int, log []impl.Access) []impl.Access {
	var open []impl.Access
	for i, m := range l {
		count := 1
		for range m.Inputs {
			count *= 10
		}
		for n := range count {
			a := access(i)
			for unit := count / 10; unit > 0; unit /= 10 {
				a.Values = append(a.Values, n/unit%10)
			}
			isUnknown := func(v int) bool { return !slices.Contains(values, v) }
			isMade := slices.ContainsFunc(log, func(before impl.Access) bool { return equalAccesses(a, before) })
			if m.Limit == 0 && !isMade && !slices.ContainsFunc(a.Values, isUnknown) {
				open = append(open, a)
			}
		}
	}
	return open
}

// reachByHand follows the document word by word, without the program, and has the state at the start and after each step.
func reachByHand(l []impl.Method, facts []impl.Fact, seeds []int) []impl.Reached {
	r := impl.Reached{Values: slices.DeleteFunc(slices.Clone(seeds), func(v int) bool { return v < 0 || v > 9 })}
	slices.Sort(r.Values)
	r.Values = slices.Compact(r.Values)
	states := []impl.Reached{copyReached(r)}
	for open := openByHand(l, r.Values, r.Log); len(open) > 0; open = openByHand(l, r.Values, r.Log) {
		for _, a := range open {
			for _, f := range matchesByHand(l[a.Method], a.Values, facts) {
				r.Facts = append(r.Facts, f)
				r.Values = append(r.Values, f.Values...)
			}
		}
		isTold := func(f impl.Fact) bool {
			return slices.ContainsFunc(r.Facts, func(told impl.Fact) bool { return told.Rel == f.Rel && slices.Equal(told.Values, f.Values) })
		}
		r.Facts = slices.DeleteFunc(deepCopy(facts), func(f impl.Fact) bool { return !isTold(f) })
		slices.Sort(r.Values)
		r.Values = slices.Compact(r.Values)
		r.Log = append(r.Log, open...)
		r.Rounds++
		states = append(states, copyReached(r))
	}
	return states
}

func TestStartReach(t *testing.T) {
	for _, c := range []struct{ seeds, want []int }{
		{nil, nil},
		{[]int{}, nil},
		{[]int{1}, []int{1}},
		{[]int{0, 9}, []int{0, 9}},
		{[]int{9, 0, 4}, []int{0, 4, 9}},
		{[]int{1, 10, 1}, []int{1}},
		{[]int{3, 2, 3, 2, 2}, []int{2, 3}},
		{[]int{10}, nil},
		{[]int{-1, 17, math.MaxInt, math.MinInt}, nil},
		{[]int{-1, 9, -9, 10, 0}, []int{0, 9}},
		{[]int{9, 8, 7, 6, 5, 4, 3, 2, 1, 0, 9}, []int{0, 1, 2, 3, 4, 5, 6, 7, 8, 9}},
	} {
		if got := impl.StartReach(c.seeds); !equalReached(got, impl.Reached{Values: c.want}) {
			t.Errorf("StartReach(%v) = %v", c.seeds, got)
		}
	}
}

// reachCase says in texts what is reached for the schema 2, 1; Facts are given by their indices.
type reachCase struct {
	l      []impl.Method
	facts  []impl.Fact
	seeds  []int
	told   []int
	values []int
	log    string
	rounds int
}

func (c reachCase) check(t *testing.T, why string) {
	t.Helper()
	s := []int{2, 1}
	var told []impl.Fact
	for _, i := range c.told {
		told = append(told, c.facts[i])
	}
	r := impl.ReachAll(s, c.l, c.facts, c.seeds)
	if !equalFacts(r.Facts, told) || !slices.Equal(r.Values, c.values) || logText(r.Log) != c.log || r.Rounds != c.rounds {
		t.Errorf("%s: %v, want the facts %v, the values %v, the log %s and %d rounds", why, r, told, c.values, c.log, c.rounds)
	}
	if !impl.IsReached(s, c.l, c.facts, c.seeds, r) {
		t.Errorf("%s: %v is not reached", why, r)
	}
	if next, more := impl.StepReach(s, c.l, c.facts, r); more || !equalReached(next, r) {
		t.Errorf("%s: a step leads from the end to %v, %v", why, next, more)
	}
}

func TestReachAll(t *testing.T) {
	// The facts by their indices: r0(1,2) r0(1,3) r0(4,2) r0(5,2) r0(6,5) r1(2) r1(7).
	d, l := callFacts(), someCalls()
	first, second := method(0, []int{0}, 0, 1, 1), method(0, []int{1}, 0, 1, 1)
	both, test := method(0, []int{0, 1}, 0, 1, 1), method(1, []int{0}, 0, 1, 1)
	for why, c := range map[string]reachCase{
		"one value":                            {l, d, []int{1}, []int{0, 1, 5, 6}, []int{1, 2, 3, 7}, "m0(1) m1() m0(2) m0(3) m0(7)", 2},
		"another value":                        {l, d, []int{6}, []int{3, 4, 5, 6}, []int{2, 5, 6, 7}, "m0(6) m1() m0(2) m0(5) m0(7)", 2},
		"a value that no fact has":             {l, d, []int{9}, []int{5, 6}, []int{2, 7, 9}, "m0(9) m1() m0(2) m0(7)", 2},
		"values in any order":                  {l, d, []int{6, 1, 6, 10}, []int{0, 1, 3, 4, 5, 6}, []int{1, 2, 3, 5, 6, 7}, "m0(1) m0(6) m1() m0(2) m0(3) m0(5) m0(7)", 2},
		"by the second value":                  {[]impl.Method{second}, d, []int{2}, []int{0, 2, 3, 4}, []int{1, 2, 4, 5, 6}, "m0(2) m0(1) m0(4) m0(5) m0(6)", 3},
		"in both directions":                   {[]impl.Method{first, second}, d, []int{3}, []int{0, 1, 2, 3, 4}, []int{1, 2, 3, 4, 5, 6}, "m0(3) m1(3) m0(1) m1(1) m0(2) m1(2) m0(4) m0(5) m1(4) m1(5) m0(6) m1(6)", 5},
		"by both values":                       {[]impl.Method{both}, d, []int{1, 2, 4}, []int{0, 2}, []int{1, 2, 4}, "m0(1,1) m0(1,2) m0(1,4) m0(2,1) m0(2,2) m0(2,4) m0(4,1) m0(4,2) m0(4,4)", 1},
		"by both values, one of them new":      {[]impl.Method{both, method(1, nil, 0, 1, 1)}, d[4:], []int{5}, []int{1, 2}, []int{2, 5, 7}, "m0(5,5) m1() m0(2,2) m0(2,5) m0(2,7) m0(5,2) m0(5,7) m0(7,2) m0(7,5) m0(7,7)", 2},
		"only what calls with values ask for":  {[]impl.Method{test}, d, []int{1, 2}, []int{5}, []int{1, 2}, "m0(1) m0(2)", 1},
		"two methods that tell of the same":    {[]impl.Method{first, first}, d, []int{6}, []int{3, 4}, []int{2, 5, 6}, "m0(6) m1(6) m0(5) m1(5) m0(2) m1(2)", 3},
		"no facts":                             {l, nil, []int{8}, nil, []int{8}, "m0(8) m1()", 1},
		"no methods":                           {nil, d, []int{1}, nil, []int{1}, "", 0},
		"only methods with a limit":            {l[2:], d, []int{1, 2, 3}, nil, []int{1, 2, 3}, "", 0},
		"a limit that all facts are within":    {[]impl.Method{method(1, nil, 9, 0, 99), first}, d, []int{4}, []int{2}, []int{2, 4}, "m1(4) m1(2)", 2},
		"neither costs nor quotas matter":      {[]impl.Method{method(0, []int{0}, 0, 99, 1)}, d, []int{1, 4, 5, 6}, []int{0, 1, 2, 3, 4}, []int{1, 2, 3, 4, 5, 6}, "m0(1) m0(4) m0(5) m0(6) m0(2) m0(3)", 2},
		"values of the methods in their order": {[]impl.Method{test, first}, d, []int{5, 1}, []int{0, 1, 3, 5}, []int{1, 2, 3, 5}, "m0(1) m0(5) m1(1) m1(5) m0(2) m0(3) m1(2) m1(3)", 2},
	} {
		c.check(t, why)
	}
}

func TestReachAllWithoutValues(t *testing.T) {
	d, l := callFacts(), someCalls()
	first, all := method(0, []int{0}, 0, 1, 1), method(0, nil, 0, 1, 1)
	for why, c := range map[string]reachCase{
		"a method without inputs":              {l, d, nil, []int{5, 6}, []int{2, 7}, "m1() m0(2) m0(7)", 2},
		"no value is a value":                  {l, d, []int{-1, 10, 17, math.MinInt}, []int{5, 6}, []int{2, 7}, "m1() m0(2) m0(7)", 2},
		"every method has inputs":              {[]impl.Method{first, method(1, []int{0}, 0, 1, 1)}, d, nil, nil, nil, "", 0},
		"the one without inputs has a limit":   {[]impl.Method{first, method(1, nil, 9, 1, 1)}, d, []int{}, nil, nil, "", 0},
		"what is told of leads on":             {[]impl.Method{first, method(1, nil, 0, 1, 1)}, []impl.Fact{fact(0, 1, 2), fact(0, 2, 3), fact(0, 4, 5), fact(1, 1)}, nil, []int{0, 1, 3}, []int{1, 2, 3}, "m1() m0(1) m0(2) m0(3)", 4},
		"two methods without inputs":           {[]impl.Method{all, method(1, nil, 0, 1, 1)}, d, nil, []int{0, 1, 2, 3, 4, 5, 6}, []int{1, 2, 3, 4, 5, 6, 7}, "m0() m1()", 1},
		"nothing is told of, so nothing leads": {[]impl.Method{first, method(1, nil, 0, 1, 1)}, d[:5], nil, nil, nil, "m1()", 1},
		"no facts":                             {l, nil, nil, nil, nil, "m1()", 1},
		"no methods":                           {nil, d, nil, nil, nil, "", 0},
	} {
		c.check(t, why)
	}
}

// A value that a call tells of is passed in the next round, not before: a chain of all values takes a round for each.
func TestAsManyRoundsAsThereCanBe(t *testing.T) {
	s := []int{2, 1}
	d := []impl.Fact{fact(1, 0)}
	for n := 8; n >= 0; n-- {
		d = append([]impl.Fact{fact(0, n, n+1)}, d...)
	}
	chain := []impl.Method{method(0, []int{0}, 0, 0, 1), method(1, nil, 0, 0, 1)}
	for _, c := range []struct {
		seeds  []int
		rounds int
		log    string
	}{
		{nil, 11, "m1() m0(0) m0(1) m0(2) m0(3) m0(4) m0(5) m0(6) m0(7) m0(8) m0(9)"},
		{[]int{0}, 10, "m0(0) m1() m0(1) m0(2) m0(3) m0(4) m0(5) m0(6) m0(7) m0(8) m0(9)"},
		{[]int{5}, 6, "m0(5) m1() m0(0) m0(6) m0(1) m0(7) m0(2) m0(8) m0(3) m0(9) m0(4)"},
		{[]int{0, 5}, 5, "m0(0) m0(5) m1() m0(1) m0(6) m0(2) m0(7) m0(3) m0(8) m0(4) m0(9)"},
	} {
		r := impl.ReachAll(s, chain, d, c.seeds)
		if r.Rounds != c.rounds || logText(r.Log) != c.log || !equalFacts(r.Facts, d) || len(r.Values) != 10 {
			t.Errorf("from %v: %v", c.seeds, r)
		}
	}
}

// As many methods, inputs, values and facts as there may be.
func TestReachAtTheLimits(t *testing.T) {
	s := []int{3}
	l := slices.Repeat([]impl.Method{method(0, []int{0, 1, 2}, 0, 99, 99)}, 5)
	every := []int{9, 8, 7, 6, 5, 4, 3, 2, 1, 0}
	r := impl.ReachAll(s, l, triples(), every)
	if len(r.Log) != 5000 || r.Rounds != 1 || !equalFacts(r.Facts, triples()) || !equalReached(impl.StartReach(every), impl.Reached{Values: r.Values}) {
		t.Errorf("%d calls in %d rounds tell of %v and the values %v", len(r.Log), r.Rounds, r.Facts, r.Values)
	}
	for i, a := range r.Log {
		n := i % 1000
		if !equalAccesses(a, access(i/1000, n/100, n/10%10, n%10)) {
			t.Fatalf("the call %d is %v", i, a)
		}
	}
	if !impl.IsReached(s, l, triples(), every, r) || impl.IsReached(s, l, triples(), every[1:], r) {
		t.Error("IsReached")
	}
}

// reachQuestion is what is asked about reaching.
type reachQuestion struct {
	l     []impl.Method
	facts []impl.Fact
	seeds []int
}

// eachReachQuestion has many methods, facts and values to begin with, none of these too, for the schema 2, 1.
func eachReachQuestion(found func(reachQuestion)) {
	seeds := [][]int{nil, {1}, {3, 1}, {5, 9}, {4, 0, 2}, {0, 1, 2, 3, 4, 5, 6, 7, 8, 9}, {-1, 12}}
	lists := append(smallFacts(), callFacts())
	methods := append(orderMethods(), someCalls(), []impl.Method{method(0, []int{0}, 0, 0, 1), method(0, []int{1}, 0, 0, 1), method(1, []int{0}, 0, 0, 1)})
	for _, l := range methods {
		for _, facts := range lists {
			for _, values := range seeds {
				found(reachQuestion{l, facts, values})
			}
		}
	}
}

func TestReachByHand(t *testing.T) {
	s := []int{2, 1}
	long := 0
	eachReachQuestion(func(c reachQuestion) {
		r := impl.StartReach(c.seeds)
		states := reachByHand(c.l, c.facts, c.seeds)
		for i, want := range states {
			if !equalReached(r, want) || !impl.IsReached(s, c.l, c.facts, c.seeds, r) {
				t.Fatalf("%v, after %d steps: %v, want %v", c, i, r, want)
			}
			open, wantOpen := impl.OpenAccesses(s, c.l, r), openByHand(c.l, r.Values, r.Log)
			if !slices.EqualFunc(open, wantOpen, equalAccesses) {
				t.Fatalf("%v, after %d steps: open are %v, want %v", c, i, open, wantOpen)
			}
			next, more := impl.StepReach(s, c.l, c.facts, r)
			if more != (i < len(states)-1) || !more && !equalReached(next, r) {
				t.Fatalf("%v, after %d steps: the next state is %v, %v", c, i, next, more)
			}
			r = next
		}
		if all := impl.ReachAll(s, c.l, c.facts, c.seeds); !equalReached(all, r) {
			t.Fatalf("%v: ReachAll is %v, want %v", c, all, r)
		}
		if len(states) > 3 {
			long++
		}
	})
	if long < 50 {
		t.Errorf("only %d of more than two rounds", long)
	}
}

// Every fact that is reached has a proof: a call with values that are known without it. Every other one is told of by no call with known values.
func TestReachedAreExactlyTheFactsWithProofs(t *testing.T) {
	s := []int{2, 1}
	reached, others := 0, 0
	eachReachQuestion(func(c reachQuestion) {
		r := impl.ReachAll(s, c.l, c.facts, c.seeds)
		known := slices.Clone(c.seeds)
		for _, a := range r.Log {
			for _, v := range a.Values {
				if !slices.Contains(known, v) {
					t.Fatalf("%v: %v passes %d, but known are %v", c, a, v, known)
				}
			}
			for _, f := range matchesByHand(c.l[a.Method], a.Values, c.facts) {
				known = append(known, f.Values...)
			}
		}
		for _, f := range c.facts {
			tells := func(a impl.Access) bool {
				return slices.ContainsFunc(matchesByHand(c.l[a.Method], a.Values, c.facts), func(m impl.Fact) bool { return m.Rel == f.Rel && slices.Equal(m.Values, f.Values) })
			}
			isReached := slices.ContainsFunc(r.Facts, func(m impl.Fact) bool { return m.Rel == f.Rel && slices.Equal(m.Values, f.Values) })
			a, ok := impl.WhyReached(s, c.l, c.facts, c.seeds, f)
			first := slices.IndexFunc(r.Log, tells)
			if ok != isReached || ok && (first < 0 || !equalAccesses(a, r.Log[first])) || !ok && !equalAccesses(a, impl.Access{}) {
				t.Fatalf("%v: %v is reached: %v, by %v, %v of %v", c, f, isReached, a, ok, r.Log)
			}
			if !isReached && slices.ContainsFunc(openByHand(c.l, known, nil), tells) {
				t.Fatalf("%v: %v is not reached, but the known values %v lead to it", c, f, known)
			}
			if isReached {
				reached++
			} else {
				others++
			}
		}
	})
	if reached < 1000 || others < 1000 {
		t.Errorf("only %d facts that are reached and %d others", reached, others)
	}
}

// Steps from states to which no other step leads.
func TestStepReach(t *testing.T) {
	s, l, d := []int{2, 1}, someCalls(), callFacts()
	for why, c := range map[string]struct{ r, want impl.Reached }{
		"the zero state": {impl.Reached{}, impl.Reached{
			Facts: d[5:], Values: []int{2, 7}, Log: []impl.Access{access(1)}, Rounds: 1}},
		"values of facts that no call tells of are not added": {impl.Reached{Facts: []impl.Fact{fact(0, 2, 9)}, Values: []int{4}, Rounds: 7}, impl.Reached{
			Facts: []impl.Fact{fact(0, 2, 9), d[2], d[5], d[6]}, Values: []int{2, 4, 7}, Log: []impl.Access{access(0, 4), access(1)}, Rounds: 8}},
		"a fact that is there already, but not its values": {impl.Reached{Facts: d[2:3], Values: []int{4}}, impl.Reached{
			Facts: []impl.Fact{d[2], d[5], d[6]}, Values: []int{2, 4, 7}, Log: []impl.Access{access(0, 4), access(1)}, Rounds: 1}},
		"calls that are made are not made again, in any order": {impl.Reached{Values: []int{0, 1, 6}, Log: []impl.Access{access(1), access(0, 1)}, Rounds: 3}, impl.Reached{
			Facts: d[4:5], Values: []int{0, 1, 5, 6}, Log: []impl.Access{access(1), access(0, 1), access(0, 0), access(0, 6)}, Rounds: 4}},
		"calls in the log that are not valid do not matter": {impl.Reached{Values: []int{1}, Log: []impl.Access{access(1), access(-1, 1), access(0), access(0, 1, 1), access(0, 1, 1, 1, 1), access(9, 1), access(2, 1), access(1)}}, impl.Reached{
			Facts: d[:2], Values: []int{1, 2, 3}, Log: []impl.Access{access(1), access(-1, 1), access(0), access(0, 1, 1), access(0, 1, 1, 1, 1), access(9, 1), access(2, 1), access(1), access(0, 1)}, Rounds: 1}},
		"nothing is told of": {impl.Reached{Facts: d[5:], Values: []int{3}, Log: []impl.Access{access(1)}, Rounds: 2}, impl.Reached{
			Facts: d[5:], Values: []int{3}, Log: []impl.Access{access(1), access(0, 3)}, Rounds: 3}},
		"the last number of rounds": {impl.Reached{Rounds: 100}, impl.Reached{
			Facts: d[5:], Values: []int{2, 7}, Log: []impl.Access{access(1)}, Rounds: 101}},
	} {
		if got, more := impl.StepReach(s, l, d, c.r); !more || !equalReached(got, c.want) {
			t.Errorf("%s: %v, %v, want %v", why, got, more, c.want)
		}
	}
}

// A step may lead to more facts than are valid, but then none leads on.
func TestStepToTooManyFacts(t *testing.T) {
	s := []int{3}
	l := []impl.Method{method(0, []int{0}, 0, 0, 1)}
	start := impl.Reached{Facts: triples(), Values: []int{9}}
	next, more := impl.StepReach(s, l, []impl.Fact{fact(0, 9, 0, 0)}, start)
	want := impl.Reached{Facts: append(triples(), fact(0, 9, 0, 0)), Values: []int{0, 9}, Log: []impl.Access{access(0, 9)}, Rounds: 1}
	if !more || !equalReached(next, want) {
		t.Errorf("%v, %v", next, more)
	}
	if again, more := impl.StepReach(s, l, []impl.Fact{fact(0, 9, 0, 0)}, next); more || !equalReached(again, want) {
		t.Errorf("a step further: %v, %v", again, more)
	}
}

// reachArguments are the arguments of StepReach.
type reachArguments struct {
	s []int
	l []impl.Method
	d []impl.Fact
	r impl.Reached
}

// someReach is valid, and has open accesses.
func someReach() reachArguments {
	r := impl.Reached{Facts: []impl.Fact{fact(0, 1, 2), fact(1, 2)}, Values: []int{1, 2}, Log: []impl.Access{access(1), access(0, 1)}, Rounds: 1}
	return reachArguments{[]int{2, 1}, someCalls(), callFacts(), r}
}

// invalidSources have one thing in each that is not valid: a schema or methods.
func invalidSources() map[string]func(*reachArguments) {
	return map[string]func(*reachArguments){
		"no schema":                      func(c *reachArguments) { c.s = nil },
		"a schema that is not valid":     func(c *reachArguments) { c.s = []int{2, 1, 4} },
		"too many relations":             func(c *reachArguments) { c.s = []int{2, 1, 1, 1} },
		"another schema":                 func(c *reachArguments) { c.s = []int{1, 1} },
		"too many methods":               func(c *reachArguments) { c.l = append(c.l, c.l[0]) },
		"a method that is not valid":     func(c *reachArguments) { c.l[4] = impl.Method{} },
		"a method of no relation":        func(c *reachArguments) { c.l[4].Rel = 2 },
		"a position that does not exist": func(c *reachArguments) { c.l[4].Inputs = []int{2} },
		"positions in descending order":  func(c *reachArguments) { c.l[4].Inputs = []int{1, 0} },
		"a limit that is negative":       func(c *reachArguments) { c.l[4].Limit = -1 },
		"a quota of nothing":             func(c *reachArguments) { c.l[4].Quota = 0 },
	}
}

func invalidFacts() map[string][]impl.Fact {
	return map[string][]impl.Fact{
		"facts in descending order":  {fact(1, 2), fact(0, 1, 2)},
		"a fact twice":               {fact(0, 2, 3), fact(0, 2, 3)},
		"a fact with too few values": {fact(0, 2), fact(1, 2)},
		"a fact without values":      {fact(0), fact(1, 2)},
		"a value that is too great":  {fact(0, 2, 3), fact(1, 10)},
		"a negative value":           {fact(0, -1, 2), fact(0, 2, 2)},
		"a fact of no relation":      {fact(0, 2, 3), fact(2, 1)},
		"a negative relation":        {fact(-1, 1), fact(0, 2, 3)},
	}
}

func invalidValues() [][]int {
	return [][]int{{2, 1}, {1, 1}, {0, 10}, {10}, {-1}, {-1, 2}, {math.MinInt, 1}, {1, math.MaxInt}, {0, 1, 2, 3, 4, 5, 6, 7, 8, 9, 10}, {1, 2, 2}}
}

func (c reachArguments) checkNoStep(t *testing.T, why string) {
	t.Helper()
	before := copyReached(c.r)
	if got, more := impl.StepReach(c.s, c.l, c.d, c.r); more || !equalReached(got, before) {
		t.Errorf("%s: a step leads to %v, %v", why, got, more)
	}
}

func TestStepReachOfInvalid(t *testing.T) {
	c := someReach()
	if got, more := impl.StepReach(c.s, c.l, c.d, c.r); !more || len(got.Log) != 3 || got.Rounds != 2 {
		t.Errorf("the valid state leads to %v, %v", got, more)
	}
	for why, spoil := range invalidSources() {
		c := someReach()
		spoil(&c)
		c.checkNoStep(t, why)
	}
	for why, facts := range invalidFacts() {
		c := someReach()
		c.d = facts
		c.checkNoStep(t, why)
		c = someReach()
		c.r.Facts = facts
		c.checkNoStep(t, why+", in the state")
	}
	for _, values := range invalidValues() {
		c := someReach()
		c.r.Values = values
		c.checkNoStep(t, "values that are not valid")
	}
	for _, rounds := range []int{-1, 101, math.MinInt, math.MaxInt} {
		c := someReach()
		c.r.Rounds = rounds
		c.checkNoStep(t, "a number of rounds that is not valid")
	}
	c = someReach()
	c.r.Log = append(c.r.Log, access(0, 2))
	c.checkNoStep(t, "no open access")
	c = someReach()
	c.l = nil
	c.checkNoStep(t, "no methods")
}

func TestReachTooManyFacts(t *testing.T) {
	s, l := []int{3}, []impl.Method{method(0, nil, 0, 0, 1)}
	for count, want := range map[int]int{24: 1, 25: 0} {
		facts := append(triples(), fact(0, 9, 9, 9))[:count]
		r := impl.ReachAll(s, l, facts, nil)
		if r.Rounds != want || len(r.Log) != want || len(r.Facts) != want*count || impl.IsReached(s, l, facts, nil, r) != (want == 1) {
			t.Errorf("%d facts: %v", count, r)
		}
		r = impl.Reached{Facts: facts}
		if next, more := impl.StepReach(s, l, triples(), r); more != (want == 1) || !more && !equalReached(next, r) {
			t.Errorf("%d facts in the state: %v, %v", count, next, more)
		}
	}
}

// Without valid methods and facts, the state at the start is all there is, and it does not count as reached.
func TestReachOfInvalid(t *testing.T) {
	check := func(why string, c reachArguments) {
		start := impl.Reached{Values: []int{1, 2}}
		if r := impl.ReachAll(c.s, c.l, c.d, []int{2, 1, 10}); !equalReached(r, start) {
			t.Errorf("%s: ReachAll is %v", why, r)
		}
		if impl.IsReached(c.s, c.l, c.d, []int{2, 1}, start) || impl.IsReached(c.s, c.l, c.d, nil, impl.Reached{}) {
			t.Errorf("%s: the state at the start is reached", why)
		}
		for _, f := range []impl.Fact{fact(0, 1, 2), fact(0, 2, 3), fact(1, 2), {}} {
			if a, ok := impl.WhyReached(c.s, c.l, c.d, []int{1, 2}, f); ok || !equalAccesses(a, impl.Access{}) {
				t.Errorf("%s: %v is reached by %v", why, f, a)
			}
		}
	}
	for why, spoil := range invalidSources() {
		c := someReach()
		spoil(&c)
		check(why, c)
	}
	for why, facts := range invalidFacts() {
		c := someReach()
		c.d = facts
		check(why, c)
	}
}

func TestIsReached(t *testing.T) {
	s, l, d := []int{2, 1}, someCalls(), callFacts()
	one := impl.Reached{Facts: []impl.Fact{d[2], d[5], d[6]}, Values: []int{2, 4, 7}, Log: []impl.Access{access(0, 4), access(1)}, Rounds: 1}
	for why, c := range map[string]struct {
		seeds []int
		spoil func(*impl.Reached)
		want  bool
	}{
		"after one step":           {[]int{4}, func(r *impl.Reached) {}, true},
		"seeds that are no values": {[]int{10, 4, 4, -1}, func(r *impl.Reached) {}, true},
		"at the start":             {[]int{4}, func(r *impl.Reached) { *r = impl.Reached{Values: []int{4}} }, true},
		"at the start without values": {nil, func(r *impl.Reached) {
			*r = impl.Reached{Facts: []impl.Fact{}, Values: []int{}, Log: []impl.Access{}}
		}, true},
		"after two steps": {[]int{4}, func(r *impl.Reached) { r.Log, r.Rounds = append(r.Log, access(0, 2), access(0, 7)), 2 }, true},
		"after three, but there are two": {[]int{4}, func(r *impl.Reached) {
			r.Log, r.Rounds = append(r.Log, access(0, 2), access(0, 7)), 3
		}, false},
		"a step that is not counted":      {[]int{4}, func(r *impl.Reached) { r.Rounds = 0 }, false},
		"a step too many is counted":      {[]int{4}, func(r *impl.Reached) { r.Rounds = 2 }, false},
		"a negative number of steps":      {[]int{4}, func(r *impl.Reached) { r.Rounds = -1 }, false},
		"half a step":                     {[]int{4}, func(r *impl.Reached) { r.Log = r.Log[:1] }, false},
		"a call too many":                 {[]int{4}, func(r *impl.Reached) { r.Log = append(r.Log, access(0, 2)) }, false},
		"calls in another order":          {[]int{4}, func(r *impl.Reached) { r.Log = []impl.Access{access(1), access(0, 4)} }, false},
		"a fact is missing":               {[]int{4}, func(r *impl.Reached) { r.Facts = r.Facts[1:] }, false},
		"a fact too many":                 {[]int{4}, func(r *impl.Reached) { r.Facts = append([]impl.Fact{d[1]}, r.Facts...) }, false},
		"facts in another order":          {[]int{4}, func(r *impl.Reached) { r.Facts = []impl.Fact{d[2], d[6], d[5]} }, false},
		"a value is missing":              {[]int{4}, func(r *impl.Reached) { r.Values = []int{2, 4} }, false},
		"a value too many":                {[]int{4}, func(r *impl.Reached) { r.Values = []int{2, 4, 5, 7} }, false},
		"from no value":                   {nil, func(r *impl.Reached) {}, false},
		"from another value":              {[]int{5}, func(r *impl.Reached) {}, false},
		"from one more":                   {[]int{4, 2}, func(r *impl.Reached) {}, false},
		"at the start from another value": {[]int{4}, func(r *impl.Reached) { *r = impl.Reached{} }, false},
	} {
		r := copyReached(one)
		c.spoil(&r)
		if got := impl.IsReached(s, l, d, c.seeds, r); got != c.want {
			t.Errorf("%s: IsReached(%v, %v) = %v", why, c.seeds, r, got)
		}
	}
	if impl.IsReached(s, l, d[:6], []int{4}, one) || impl.IsReached(s, l[1:], d, []int{4}, one) || impl.IsReached(s, nil, d, []int{4}, one) {
		t.Error("reached from other facts or by other methods")
	}
}

func TestOpenAccesses(t *testing.T) {
	l := someCalls()
	two := []impl.Method{method(0, []int{0, 1}, 0, 0, 1), method(1, nil, 0, 0, 1), method(0, []int{1}, 0, 0, 1)}
	for why, c := range map[string]struct {
		l    []impl.Method
		r    impl.Reached
		want string
	}{
		"no values":                       {l, impl.Reached{}, "m1()"},
		"one value":                       {l, impl.Reached{Values: []int{1}}, "m0(1) m1()"},
		"the least and greatest":          {l, impl.Reached{Values: []int{0, 9}}, "m0(0) m0(9) m1()"},
		"two inputs":                      {two, impl.Reached{Values: []int{3, 5}}, "m0(3,3) m0(3,5) m0(5,3) m0(5,5) m1() m2(3) m2(5)"},
		"some of them made":               {two, impl.Reached{Values: []int{3, 5}, Log: []impl.Access{access(2, 5), access(0, 3, 5), access(0, 5, 5)}}, "m0(3,3) m0(5,3) m1() m2(3)"},
		"made with other values":          {two, impl.Reached{Values: []int{3}, Log: []impl.Access{access(0, 5, 3), access(2, 4), access(0, 3)}}, "m0(3,3) m1() m2(3)"},
		"made by another method":          {two, impl.Reached{Values: []int{3}, Log: []impl.Access{access(1, 3), access(0), access(2, 3, 3)}}, "m0(3,3) m1() m2(3)"},
		"made twice":                      {two, impl.Reached{Values: []int{3}, Log: []impl.Access{access(1), access(2, 3), access(1), access(2, 3)}}, "m0(3,3)"},
		"all made":                        {l, impl.Reached{Values: []int{1}, Log: []impl.Access{access(1), access(0, 1)}}, ""},
		"calls that are not valid made":   {l, impl.Reached{Values: []int{1}, Log: []impl.Access{access(-1), access(0, -1), access(0, 10), access(0, 1, 1, 1, 1), access(math.MaxInt, 1), access(math.MinInt)}}, "m0(1) m1()"},
		"equal methods":                   {[]impl.Method{l[0], l[0]}, impl.Reached{Values: []int{1, 2}, Log: []impl.Access{access(1, 1)}}, "m0(1) m0(2) m1(2)"},
		"a limit":                         {l[2:], impl.Reached{Values: []int{1, 2}}, ""},
		"no methods":                      {nil, impl.Reached{Values: []int{1, 2}}, ""},
		"neither facts nor rounds matter": {l, impl.Reached{Facts: []impl.Fact{fact(7, 7), fact(0, 3, 4)}, Values: []int{1}, Rounds: -7}, "m0(1) m1()"},
	} {
		if got := impl.OpenAccesses([]int{2, 1}, c.l, c.r); logText(got) != c.want {
			t.Errorf("%s: OpenAccesses(%v, %v) = %v, want %s", why, c.l, c.r, got, c.want)
		}
	}
}

func TestOpenAccessesOfInvalid(t *testing.T) {
	for why, spoil := range invalidSources() {
		c := someReach()
		spoil(&c)
		if got := impl.OpenAccesses(c.s, c.l, c.r); len(got) > 0 {
			t.Errorf("%s: OpenAccesses returns %v", why, got)
		}
	}
	for _, values := range invalidValues() {
		c := someReach()
		c.r.Values = values
		if got := impl.OpenAccesses(c.s, c.l, c.r); len(got) > 0 {
			t.Errorf("the values %v: OpenAccesses returns %v", values, got)
		}
	}
}

func TestWhyReached(t *testing.T) {
	// The facts by their indices: r0(1,2) r0(1,3) r0(4,2) r0(5,2) r0(6,5) r1(2) r1(7).
	s, d := []int{2, 1}, callFacts()
	both := []impl.Method{method(0, []int{0}, 0, 0, 1), method(1, nil, 0, 0, 1), method(0, []int{1}, 0, 0, 1), method(1, []int{0}, 0, 0, 1), method(0, nil, 1, 0, 1)}
	for why, c := range map[string]struct {
		l     []impl.Method
		seeds []int
		f     impl.Fact
		want  string
	}{
		"by a value to begin with":               {both, []int{6}, d[4], "m0(6)"},
		"by a value that is told of":             {both, []int{6}, d[3], "m0(5)"},
		"the first of two calls":                 {both, []int{1, 2}, d[0], "m0(1)"},
		"not the one by the first method":        {both, []int{2}, d[0], "m2(2)"},
		"a call without inputs":                  {both, nil, d[6], "m1()"},
		"the first of a later round":             {both, nil, d[2], "m2(2)"},
		"the other way round":                    {both, nil, d[4], "m2(5)"},
		"a fact that no call leads to":           {someCalls(), []int{1}, d[2], ""},
		"a fact that a method with a limit has":  {both[4:], []int{1}, d[0], ""},
		"no methods":                             {nil, []int{1}, d[0], ""},
		"a fact that is none of the source":      {both, []int{1, 2}, fact(0, 1, 9), ""},
		"a fact with other values":               {both, []int{1, 2}, fact(0, 1, 2, 3), ""},
		"a fact of another relation":             {both, []int{1, 2}, fact(1, 1, 2), ""},
		"a fact of a relation that there is not": {both, []int{1, 2}, fact(2, 1, 2), ""},
		"the zero fact":                          {both, []int{1, 2}, impl.Fact{}, ""},
		"a fact that is not valid":               {both, []int{1, 2}, fact(math.MinInt, math.MaxInt), ""},
	} {
		a, ok := impl.WhyReached(s, c.l, d, c.seeds, c.f)
		if ok != (c.want != "") || ok && logText([]impl.Access{a}) != c.want || !ok && !equalAccesses(a, impl.Access{}) {
			t.Errorf("%s: %v, %v, want %q", why, a, ok, c.want)
		}
	}
}

func TestEqualReached(t *testing.T) {
	some := func() []impl.Reached {
		return []impl.Reached{
			{},
			{Rounds: 1},
			{Rounds: math.MinInt},
			{Values: []int{1}},
			{Values: []int{1, 2}},
			{Values: []int{2, 1}},
			{Values: []int{1, 1, math.MaxInt}},
			{Facts: []impl.Fact{fact(0, 1, 2)}},
			{Facts: []impl.Fact{fact(0, 1, 3)}},
			{Facts: []impl.Fact{fact(0, 1, 2), fact(1, 2)}},
			{Facts: []impl.Fact{fact(1, 2), fact(0, 1, 2)}},
			{Facts: []impl.Fact{fact(-9, 1, 2, 3, 4, 5)}},
			{Facts: []impl.Fact{fact(-9, 1, 2, 3, 4, 6)}},
			{Log: []impl.Access{access(0, 1)}},
			{Log: []impl.Access{access(1, 1)}},
			{Log: []impl.Access{access(0, 1), access(1)}},
			{Log: []impl.Access{access(1), access(0, 1)}},
			{Log: []impl.Access{access(-1, 1, 2, 3, 4, 5)}},
			{Facts: []impl.Fact{fact(0, 1, 2)}, Values: []int{1, 2}, Log: []impl.Access{access(0, 1)}, Rounds: 1},
		}
	}
	for i, a := range some() {
		for k, b := range some() {
			if got := impl.EqualReached(a, b); got != (i == k) {
				t.Errorf("EqualReached(%v, %v) = %v", a, b, got)
			}
		}
	}
	if !impl.EqualReached(impl.Reached{}, impl.Reached{Facts: []impl.Fact{}, Values: []int{}, Log: []impl.Access{}}) {
		t.Error("nil lists and empty ones differ")
	}
}

// checkReachedApart changes all lists of a state one after the other, and what is behind them.
func checkReachedApart(t *testing.T, r impl.Reached) {
	t.Helper()
	lists := [][]int{r.Values}
	for _, f := range r.Facts {
		lists = append(lists, f.Values)
	}
	for _, a := range r.Log {
		lists = append(lists, a.Values)
	}
	checkTuplesApart(t, lists)
	_, _ = append(r.Facts, fact(-5)), append(r.Log, access(-5))
	for i := range r.Facts {
		r.Facts[i] = fact(-6)
	}
	for i := range r.Log {
		r.Log[i] = access(-6)
	}
}

// All lists have spare capacity with other numbers in it.
func TestReachLeavesArguments(t *testing.T) {
	numbers := []int{0, 77, 1, 2, 77, 4, 2, 77, 2, 77, 4, 1, 77, 4, 77, 2, 4, 77, 4, 2, 77}
	schema := []int{2, 1, 77}
	methods := []impl.Method{method(0, numbers[0:1], 0, 2, 5), method(1, nil, 0, 1, 9), method(7, nil, 7, 7, 7)}
	facts := []impl.Fact{fact(0, numbers[2:4]...), fact(0, numbers[5:7]...), fact(1, numbers[8:9]...), fact(9, 9)}
	seeds := numbers[10:12]
	told, log := []impl.Fact{fact(0, numbers[18:20]...), fact(9, 9)}, []impl.Access{access(0, numbers[13:14]...), access(9, 9)}
	state := impl.Reached{Facts: told[:1], Values: numbers[15:17], Log: log[:1], Rounds: 1}
	before := []any{slices.Clone(numbers), slices.Clone(schema), slices.Clone(methods), deepCopy(facts), deepCopy(told), copyReached(impl.Reached{Log: log}).Log}
	check := func(what string) {
		t.Helper()
		for i, now := range []any{numbers, schema, methods, facts, told, log} {
			if !reflect.DeepEqual(now, before[i]) {
				t.Errorf("after %s the argument %d is %v", what, i, now)
			}
		}
	}
	results := func() []impl.Reached {
		next, _ := impl.StepReach(schema[:2], methods[:2], facts[:3], state)
		same, _ := impl.StepReach(schema[:2], methods[:2], facts, state)
		open := impl.Reached{Log: impl.OpenAccesses(schema[:2], methods[:2], state)}
		why, _ := impl.WhyReached(schema[:2], methods[:2], facts[:3], seeds, fact(0, 4, 2))
		return []impl.Reached{impl.StartReach(seeds), next, same, impl.ReachAll(schema[:2], methods[:2], facts[:3], seeds), open, {Log: []impl.Access{why}}}
	}
	got, again := results(), results()
	for i, want := range []impl.Reached{
		{Values: []int{1, 4}},
		{Facts: []impl.Fact{fact(0, 4, 2), fact(1, 2)}, Values: []int{2, 4}, Log: []impl.Access{access(0, 4), access(0, 2), access(1)}, Rounds: 2},
		{Facts: []impl.Fact{fact(0, 4, 2)}, Values: []int{2, 4}, Log: []impl.Access{access(0, 4)}, Rounds: 1},
		{Facts: []impl.Fact{fact(0, 1, 2), fact(0, 4, 2), fact(1, 2)}, Values: []int{1, 2, 4}, Log: []impl.Access{access(0, 1), access(0, 4), access(1), access(0, 2)}, Rounds: 2},
		{Log: []impl.Access{access(0, 2), access(1)}},
		{Log: []impl.Access{access(0, 4)}},
	} {
		if !equalReached(got[i], want) {
			t.Errorf("the result %d is %v, want %v", i, got[i], want)
		}
		checkReachedApart(t, got[i])
		if !equalReached(again[i], want) {
			t.Errorf("the result %d keeps memory of the one before: %v", i, again[i])
		}
	}
	if !impl.IsReached(schema[:2], methods[:2], facts[:3], seeds, again[3]) || !impl.EqualReached(state, again[2]) {
		t.Error("checks")
	}
	check("the calls and a change of the results")
}
