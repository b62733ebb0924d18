package tests

import (
	"math"
	"reflect"
	"regexp"
	"slices"
	"strconv"
	"testing"

	"loop.example/g01989/impl"
)

func method(rel int, inputs []int, limit, cost, quota int) impl.Method {
	return impl.Method{Rel: rel, Inputs: inputs, Limit: limit, Cost: cost, Quota: quota}
}

func access(m int, values ...int) impl.Access {
	return impl.Access{Method: m, Values: values}
}

// equalMethods holds nil and empty lists for equal.
func equalMethods(a, b impl.Method) bool {
	return a.Rel == b.Rel && slices.Equal(a.Inputs, b.Inputs) && a.Limit == b.Limit && a.Cost == b.Cost && a.Quota == b.Quota
}

// inputLists has all lists of positions, valid or not, that the tests of methods use.
func inputLists() [][]int {
	return [][]int{nil, {0}, {1}, {2}, {0, 1}, {0, 2}, {1, 2}, {0, 1, 2}, {3}, {-1}, {0, 0}, {1, 0}, {0, 2, 1}, {0, 1, 1}, {0, 1, 2, 3}, {-1, 0}, {1, 3}, {math.MinInt, 0}, {0, math.MaxInt}}
}

// someMethods has methods, valid for some schema or not, with every number in its range and beyond.
func someMethods() []impl.Method {
	var all []impl.Method
	for rel := -1; rel <= 3; rel++ {
		for _, inputs := range inputLists() {
			all = append(all, method(rel, inputs, 0, 0, 1), method(rel, inputs, 9, 99, 99))
		}
	}
	for _, n := range []int{math.MinInt, -100, -1, 0, 1, 2, 8, 9, 10, 11, 98, 99, 100, 101, math.MaxInt} {
		all = append(all, method(1, []int{0}, n, 3, 4), method(1, []int{0}, 3, n, 4), method(1, []int{0}, 3, 4, n), method(n, []int{0}, 3, 4, 5))
	}
	return all
}

// isMethod tells without the program whether a method is valid for the arities of all relations.
func isMethod(s []int, m impl.Method) bool {
	if m.Rel < 0 || m.Rel >= len(s) || m.Limit < 0 || m.Limit > 9 || m.Cost < 0 || m.Cost > 99 || m.Quota < 1 || m.Quota > 99 {
		return false
	}
	var positions []int
	for at := range s[m.Rel] {
		if slices.Contains(m.Inputs, at) {
			positions = append(positions, at)
		}
	}
	return slices.Equal(positions, m.Inputs)
}

var methodPattern = regexp.MustCompile(`^r([0-2]) in (free|[0-2](?:,[0-2]){0,2}) limit ([0-9]) cost ([0-9]|[1-9][0-9]) quota ([1-9]|[1-9][0-9])$`)

// readMethod tells without the program which method a text is.
func readMethod(s []int, text string) (impl.Method, bool) {
	parts := methodPattern.FindStringSubmatch(text)
	if parts == nil {
		return impl.Method{}, false
	}
	number := func(i int) int {
		n, _ := strconv.Atoi(parts[i])
		return n
	}
	m := method(number(1), nil, number(3), number(4), number(5))
	if parts[2] != "free" {
		m.Inputs = readTerms(parts[2])
	}
	if !isMethod(s, m) {
		return impl.Method{}, false
	}
	return m, true
}

func TestMethodLimits(t *testing.T) {
	if impl.MaxMethods != 5 || impl.MaxLimit != 9 {
		t.Error("limits")
	}
}

func TestIsMethod(t *testing.T) {
	for _, c := range []struct {
		s    []int
		m    impl.Method
		want bool
	}{
		{[]int{2, 1}, method(0, []int{0}, 0, 2, 5), true},
		{[]int{2, 1}, method(0, []int{1}, 1, 1, 2), true},
		{[]int{2, 1}, method(0, []int{0, 1}, 0, 0, 1), true},
		{[]int{2, 1}, method(1, nil, 0, 0, 1), true},
		{[]int{2, 1}, method(1, []int{}, 9, 99, 99), true},
		{[]int{1, 1, 3}, method(2, []int{0, 1, 2}, 0, 0, 1), true},
		{[]int{1, 1, 3}, method(2, []int{0, 2}, 0, 0, 1), true},
		{[]int{2, 1}, impl.Method{}, false},
		{[]int{2, 1}, method(1, []int{1}, 0, 0, 1), false},
		{[]int{2, 1}, method(0, []int{2}, 0, 0, 1), false},
		{[]int{2, 1}, method(0, []int{0, 2}, 0, 0, 1), false},
		{[]int{2, 1}, method(0, []int{-1}, 0, 0, 1), false},
		{[]int{2, 1}, method(0, []int{-1, 0}, 0, 0, 1), false},
		{[]int{2, 1}, method(0, []int{1, 0}, 0, 0, 1), false},
		{[]int{2, 1}, method(0, []int{0, 0}, 0, 0, 1), false},
		{[]int{2, 1}, method(0, []int{0, 1, 1}, 0, 0, 1), false},
		{[]int{3}, method(0, []int{0, 2, 1}, 0, 0, 1), false},
		{[]int{3}, method(0, []int{0, 1, 2, 3}, 0, 0, 1), false},
		{[]int{2, 1}, method(0, []int{math.MinInt}, 0, 0, 1), false},
		{[]int{2, 1}, method(0, []int{math.MaxInt}, 0, 0, 1), false},
		{[]int{2, 1}, method(2, nil, 0, 0, 1), false},
		{[]int{2, 1}, method(-1, nil, 0, 0, 1), false},
		{[]int{2, 1}, method(math.MaxInt, nil, 0, 0, 1), false},
		{[]int{2, 1}, method(math.MinInt, nil, 0, 0, 1), false},
		{[]int{2, 1}, method(0, nil, 10, 0, 1), false},
		{[]int{2, 1}, method(0, nil, -1, 0, 1), false},
		{[]int{2, 1}, method(0, nil, 0, 100, 1), false},
		{[]int{2, 1}, method(0, nil, 0, -1, 1), false},
		{[]int{2, 1}, method(0, nil, 0, 0, 100), false},
		{[]int{2, 1}, method(0, nil, 0, 0, 0), false},
		{[]int{2, 1}, method(0, nil, 0, 0, -1), false},
		{nil, method(0, nil, 0, 0, 1), false},
		{[]int{4}, method(0, nil, 0, 0, 1), false},
		{[]int{2, 0}, method(0, nil, 0, 0, 1), false},
		{[]int{1, 1, 1, 1}, method(0, nil, 0, 0, 1), false},
	} {
		if got := impl.IsMethod(c.s, c.m); got != c.want {
			t.Errorf("IsMethod(%v, %v) = %v", c.s, c.m, got)
		}
	}
	for _, s := range allSchemas() {
		for _, m := range someMethods() {
			if got := impl.IsMethod(s, m); got != isMethod(s, m) {
				t.Fatalf("IsMethod(%v, %v) = %v", s, m, got)
			}
		}
	}
}

func TestAreMethods(t *testing.T) {
	m := method(1, nil, 0, 1, 9)
	for why, c := range map[string]struct {
		s    []int
		l    []impl.Method
		want bool
	}{
		"none":                      {[]int{2, 1}, nil, true},
		"an empty list":             {[]int{2, 1}, []impl.Method{}, true},
		"one":                       {[]int{2, 1}, []impl.Method{m}, true},
		"in any order":              {[]int{2, 1}, []impl.Method{m, method(0, []int{1}, 1, 1, 2), method(0, []int{0}, 0, 2, 5)}, true},
		"as many as allowed, equal": {[]int{2, 1}, []impl.Method{m, m, m, m, m}, true},
		"one too many":              {[]int{2, 1}, []impl.Method{m, m, m, m, m, m}, false},
		"first not valid":           {[]int{2, 1}, []impl.Method{method(2, nil, 0, 0, 1), m}, false},
		"last not valid":            {[]int{2, 1}, []impl.Method{m, m, m, m, {}}, false},
		"of another schema":         {[]int{2}, []impl.Method{m}, false},
		"none, no schema":           {nil, nil, false},
		"none, schema not valid":    {[]int{1, 4}, nil, false},
		"schema not valid":          {[]int{1, 1, 4}, []impl.Method{m}, false},
	} {
		if got := impl.AreMethods(c.s, c.l); got != c.want {
			t.Errorf("%s: AreMethods(%v, %v) = %v", why, c.s, c.l, got)
		}
	}
}

// someCalls are r0 by its first value, all of r1, r0 by its second value with at most two facts, r0 by both, and all of r0 with at most three.
func someCalls() []impl.Method {
	return []impl.Method{
		method(0, []int{0}, 0, 2, 5),
		method(1, nil, 0, 1, 9),
		method(0, []int{1}, 2, 1, 2),
		method(0, []int{0, 1}, 1, 0, 1),
		method(0, nil, 3, 99, 99),
	}
}

func TestIsAccess(t *testing.T) {
	valid := someCalls()
	for why, c := range map[string]struct {
		s    []int
		l    []impl.Method
		a    impl.Access
		want bool
	}{
		"one value":                     {[]int{2, 1}, valid, access(0, 1), true},
		"no value":                      {[]int{2, 1}, valid, access(1), true},
		"two values":                    {[]int{2, 1}, valid, access(3, 0, 9), true},
		"the last method":               {[]int{2, 1}, valid, impl.Access{Method: 4, Values: []int{}}, true},
		"no value, but one is needed":   {[]int{2, 1}, valid, access(0), false},
		"one value, but none is needed": {[]int{2, 1}, valid, access(1, 0), false},
		"one value, but two are needed": {[]int{2, 1}, valid, access(3, 0), false},
		"three values, but two are":     {[]int{2, 1}, valid, access(3, 0, 9, 0), false},
		"a value beyond the limit":      {[]int{2, 1}, valid, access(0, 10), false},
		"a negative value":              {[]int{2, 1}, valid, access(0, -1), false},
		"the last value not valid":      {[]int{2, 1}, valid, access(3, 0, 10), false},
		"a method beyond all":           {[]int{2, 1}, valid, access(5), false},
		"a method of fewer":             {[]int{2, 1}, valid[:1], access(1), false},
		"a negative method":             {[]int{2, 1}, valid, access(-1), false},
		"the least method":              {[]int{2, 1}, valid, access(math.MinInt), false},
		"the greatest method":           {[]int{2, 1}, valid, access(math.MaxInt), false},
		"no methods":                    {[]int{2, 1}, nil, access(0), false},
		"too many methods":              {[]int{2, 1}, append(someCalls(), valid[0]), access(1), false},
		"another method is not valid":   {[]int{2, 1}, []impl.Method{valid[0], {}}, access(0, 1), false},
		"no schema":                     {nil, valid, access(1), false},
		"a schema that is not valid":    {[]int{2, 1, 4}, valid, access(1), false},
		"methods of another schema":     {[]int{1, 1}, valid, access(1), false},
		"a relation without a method":   {[]int{2, 1, 3}, valid, access(1), true},
	} {
		if got := impl.IsAccess(c.s, c.l, c.a); got != c.want {
			t.Errorf("%s: IsAccess(%v, %v, %v) = %v", why, c.s, c.l, c.a, got)
		}
	}
}

// callFacts has five facts of r0, three of them with 2 in the second place, and two of r1.
func callFacts() []impl.Fact {
	return []impl.Fact{fact(0, 1, 2), fact(0, 1, 3), fact(0, 4, 2), fact(0, 5, 2), fact(0, 6, 5), fact(1, 2), fact(1, 7)}
}

func TestMatchesOf(t *testing.T) {
	d := callFacts()
	for _, c := range []struct {
		a    impl.Access
		want []impl.Fact
	}{
		{access(0, 1), d[0:2]},
		{access(0, 4), d[2:3]},
		{access(0, 2), nil},
		{access(1), d[5:7]},
		{access(2, 2), []impl.Fact{d[0], d[2], d[3]}},
		{access(2, 3), d[1:2]},
		{access(2, 9), nil},
		{access(3, 1, 3), d[1:2]},
		{access(3, 3, 1), nil},
		{access(4), d[:5]},
	} {
		if got := impl.MatchesOf([]int{2, 1}, someCalls(), d, c.a); !equalFacts(got, c.want) {
			t.Errorf("MatchesOf(%v) = %v, want %v", c.a, got, c.want)
		}
	}
}

// Of three values, those at the inputs count, in the order of the inputs.
func TestMatchesOfInputs(t *testing.T) {
	for _, c := range []struct {
		inputs []int
		values []int
		want   []impl.Fact
	}{
		{[]int{1, 2}, []int{2, 3}, []impl.Fact{fact(0, 1, 2, 3), fact(0, 3, 2, 3)}},
		{[]int{0, 2}, []int{1, 3}, []impl.Fact{fact(0, 1, 2, 3), fact(0, 1, 3, 3)}},
		{[]int{0, 1}, []int{1, 2}, []impl.Fact{fact(0, 1, 2, 2), fact(0, 1, 2, 3)}},
		{[]int{2}, []int{2}, []impl.Fact{fact(0, 1, 2, 2)}},
		{[]int{0, 1, 2}, []int{1, 3, 3}, []impl.Fact{fact(0, 1, 3, 3)}},
		{[]int{0, 2}, []int{3, 1}, nil},
	} {
		d := []impl.Fact{fact(0, 1, 2, 2), fact(0, 1, 2, 3), fact(0, 1, 3, 3), fact(0, 3, 2, 3)}
		l := []impl.Method{method(0, c.inputs, 1, 0, 1)}
		if got := impl.MatchesOf([]int{3}, l, d, access(0, c.values...)); !equalFacts(got, c.want) {
			t.Errorf("inputs %v, values %v: %v, want %v", c.inputs, c.values, got, c.want)
		}
	}
}

func TestRespondTo(t *testing.T) {
	d := callFacts()
	for _, c := range []struct {
		a      impl.Access
		choice int
		want   []impl.Fact
	}{
		{access(0, 1), 0, d[0:2]},
		{access(0, 1), 1, d[0:2]},
		{access(0, 1), math.MaxInt, d[0:2]},
		{access(0, 2), 3, nil},
		{access(1), 1, d[5:7]},
		{access(2, 2), 0, []impl.Fact{d[0], d[2]}},
		{access(2, 2), 1, []impl.Fact{d[2], d[3]}},
		{access(2, 2), 2, []impl.Fact{d[0], d[3]}},
		{access(2, 2), 3, []impl.Fact{d[0], d[2]}},
		{access(2, 2), 5, []impl.Fact{d[0], d[3]}},
		{access(2, 2), -1, []impl.Fact{d[0], d[2]}},
		{access(2, 2), -2, []impl.Fact{d[0], d[2]}},
		{access(2, 2), math.MinInt, []impl.Fact{d[0], d[2]}},
		{access(2, 2), math.MaxInt, []impl.Fact{d[2], d[3]}},
		{access(2, 3), 7, d[1:2]},
		{access(2, 9), 7, nil},
		{access(2, 9), -7, nil},
		{access(3, 1, 3), 4, d[1:2]},
		{access(4), 0, d[0:3]},
		{access(4), 2, d[2:5]},
		{access(4), 3, []impl.Fact{d[0], d[3], d[4]}},
		{access(4), 4, []impl.Fact{d[0], d[1], d[4]}},
	} {
		if got := impl.RespondTo([]int{2, 1}, someCalls(), d, c.a, c.choice); !equalFacts(got, c.want) {
			t.Errorf("RespondTo(%v, %d) = %v, want %v", c.a, c.choice, got, c.want)
		}
	}
}

func TestIsResponse(t *testing.T) {
	d := callFacts()
	for why, c := range map[string]struct {
		a        impl.Access
		response []impl.Fact
		want     bool
	}{
		"all of an exact method":              {access(0, 1), d[0:2], true},
		"not all of an exact method":          {access(0, 1), d[0:1], false},
		"more than all of an exact method":    {access(0, 1), d[0:3], false},
		"as many, but another one":            {access(0, 1), d[1:3], false},
		"none of an exact method":             {access(0, 2), nil, true},
		"a fact that does not match":          {access(0, 2), d[0:1], false},
		"nothing instead of all":              {access(1), nil, false},
		"as many as the limit":                {access(2, 2), []impl.Fact{d[0], d[3]}, true},
		"others, as many as the limit":        {access(2, 2), d[2:4], true},
		"fewer than the limit":                {access(2, 2), d[0:1], false},
		"more than the limit":                 {access(2, 2), []impl.Fact{d[0], d[2], d[3]}, false},
		"as many, but one does not match":     {access(2, 2), d[0:2], false},
		"all, because they are fewer":         {access(2, 3), d[1:2], true},
		"nothing, but there is one":           {access(2, 3), nil, false},
		"nothing, and there is none":          {access(2, 9), []impl.Fact{}, true},
		"a limit of one that is reached":      {access(3, 1, 3), d[1:2], true},
		"in descending order":                 {access(2, 2), []impl.Fact{d[3], d[0]}, false},
		"one twice":                           {access(2, 2), []impl.Fact{d[0], d[0]}, false},
		"all in descending order":             {access(1), []impl.Fact{d[6], d[5]}, false},
		"a fact that is not there":            {access(2, 2), []impl.Fact{d[0], fact(0, 3, 2)}, false},
		"a fact that is not valid":            {access(2, 2), []impl.Fact{d[0], fact(0, 10, 2)}, false},
		"a fact of another relation":          {access(1), []impl.Fact{d[0], d[5]}, false},
		"a fact of no relation":               {access(2, 3), []impl.Fact{fact(2, 1)}, false},
		"an access that is not valid":         {access(2), nil, false},
		"an access of a method that is none":  {access(5), nil, false},
		"an access of a negative method":      {access(-1), nil, false},
		"an access with a value that is none": {access(2, 10), nil, false},
	} {
		if got := impl.IsResponse([]int{2, 1}, someCalls(), d, c.a, c.response); got != c.want {
			t.Errorf("%s: IsResponse(%v, %v) = %v", why, c.a, c.response, got)
		}
	}
}

// matchesByHand and sizeByHand tell without the program which facts a source has for an access, and how many it tells of.
func matchesByHand(m impl.Method, values []int, facts []impl.Fact) []impl.Fact {
	return slices.DeleteFunc(deepCopy(facts), func(f impl.Fact) bool {
		var at []int
		for i, v := range f.Values {
			if slices.Contains(m.Inputs, i) {
				at = append(at, v)
			}
		}
		return f.Rel != m.Rel || !slices.Equal(at, values)
	})
}

func sizeByHand(m impl.Method, count int) int {
	if m.Limit > 0 && m.Limit < count {
		return m.Limit
	}
	return count
}

// A limit is reached exactly: up to it a source tells of all facts, whatever it chooses, and beyond it of that many.
func TestLimitIsReachedExactly(t *testing.T) {
	var d []impl.Fact
	for n := range 24 {
		d = append(d, fact(0, n/10, n%10))
	}
	for limit := range impl.MaxLimit + 1 {
		l := []impl.Method{method(0, nil, limit, 0, 1)}
		for count := range len(d) + 1 {
			want := sizeByHand(l[0], count)
			for choice := -1; choice < count+3; choice++ {
				got := impl.RespondTo([]int{2}, l, d[:count], access(0), choice)
				if len(got) != want || !impl.IsResponse([]int{2}, l, d[:count], access(0), got) {
					t.Fatalf("limit %d, %d facts, choice %d: %v", limit, count, choice, got)
				}
				for i := range want {
					if f := d[(max(choice, 0)+i)%count]; !impl.HasFact(got, f) {
						t.Fatalf("limit %d, %d facts, choice %d: %v is missing in %v", limit, count, choice, f, got)
					}
				}
				if !slices.IsSortedFunc(got, impl.CompareFacts) {
					t.Fatalf("limit %d, %d facts, choice %d: %v is not in order", limit, count, choice, got)
				}
			}
			for size := range count + 1 {
				if got := impl.IsResponse([]int{2}, l, d[:count], access(0), d[count-size:count]); got != (size == want) {
					t.Fatalf("limit %d, %d facts: %d of them are a response: %v", limit, count, size, got)
				}
			}
		}
	}
}

// Of all lists of facts, exactly those are responses that a source may choose, and what it tells with a choice is one of them.
func TestResponsesAreWhatSourcesChoose(t *testing.T) {
	s := []int{2, 1}
	universe := []impl.Fact{fact(0, 1, 1), fact(0, 1, 2), fact(0, 2, 1), fact(0, 2, 2), fact(0, 3, 2), fact(1, 1), fact(1, 2)}
	subset := func(bits int) []impl.Fact {
		var l []impl.Fact
		for i, f := range universe {
			if bits>>i&1 == 1 {
				l = append(l, f)
			}
		}
		return l
	}
	check := func(m impl.Method, values []int, facts []impl.Fact) {
		l, a := []impl.Method{m}, access(0, values...)
		matches := matchesByHand(m, values, facts)
		size := sizeByHand(m, len(matches))
		if got := impl.MatchesOf(s, l, facts, a); !equalFacts(got, matches) {
			t.Fatalf("%v, %v: the matches among %v are %v", m, values, facts, got)
		}
		for bits := range 1 << len(universe) {
			response := subset(bits)
			isAmong := func(f impl.Fact) bool { return impl.HasFact(matches, f) }
			want := len(response) == size && len(slices.DeleteFunc(slices.Clone(response), isAmong)) == 0
			if got := impl.IsResponse(s, l, facts, a, response); got != want {
				t.Fatalf("%v, %v: from %v, %v is a response: %v", m, values, facts, response, got)
			}
		}
		for choice := -1; choice <= 2*len(matches); choice++ {
			got := impl.RespondTo(s, l, facts, a, choice)
			if !impl.IsResponse(s, l, facts, a, got) || size > 0 && !impl.HasFact(got, matches[max(choice, 0)%len(matches)]) {
				t.Fatalf("%v, %v: from %v, choice %d: %v", m, values, facts, choice, got)
			}
		}
	}
	for bits := range 1 << len(universe) {
		for limit := range 4 {
			check(method(0, nil, limit, 0, 1), nil, subset(bits))
			check(method(0, []int{1}, limit, 0, 1), []int{2}, subset(bits))
			check(method(0, []int{0, 1}, limit, 0, 1), []int{2, 1}, subset(bits))
			check(method(1, nil, limit, 0, 1), nil, subset(bits))
		}
	}
}

func TestCallsOfInvalid(t *testing.T) {
	d := callFacts()
	for why, c := range map[string]struct {
		s     []int
		l     []impl.Method
		facts []impl.Fact
		a     impl.Access
	}{
		"no schema":                   {nil, someCalls(), d, access(1)},
		"a schema that is not valid":  {[]int{2, 1, 0}, someCalls(), d, access(1)},
		"a schema of other facts":     {[]int{2, 2}, someCalls(), d, access(1)},
		"no methods":                  {[]int{2, 1}, nil, d, access(0)},
		"too many methods":            {[]int{2, 1}, append(someCalls(), someCalls()[0]), d, access(1)},
		"a method that is not valid":  {[]int{2, 1}, append(someCalls()[:2], impl.Method{}), d, access(1)},
		"a method that is none":       {[]int{2, 1}, someCalls(), d, access(5)},
		"a negative method":           {[]int{2, 1}, someCalls(), d, access(-1)},
		"a value too few":             {[]int{2, 1}, someCalls(), d, access(0)},
		"a value too many":            {[]int{2, 1}, someCalls(), d, access(0, 1, 2)},
		"a value of a call for all":   {[]int{2, 1}, someCalls(), d, access(1, 2)},
		"a value that is none":        {[]int{2, 1}, someCalls(), append(d[:5:5], fact(0, 10, 2)), access(0, 10)},
		"facts in descending order":   {[]int{2, 1}, someCalls(), []impl.Fact{d[6], d[5]}, access(1)},
		"a fact twice":                {[]int{2, 1}, someCalls(), []impl.Fact{d[5], d[5]}, access(1)},
		"a fact that is not valid":    {[]int{2, 1}, someCalls(), append(d[:6:6], fact(1, 10)), access(0, 1)},
		"a fact with too few values":  {[]int{2, 1}, someCalls(), []impl.Fact{fact(0, 1)}, access(2, 2)},
		"a fact without values":       {[]int{2, 1}, someCalls(), []impl.Fact{fact(0)}, access(0, 1)},
		"too many facts":              {[]int{3}, []impl.Method{method(0, nil, 0, 0, 1)}, append(triples(), fact(0, 9, 9, 9)), access(0)},
		"the zero value of an access": {[]int{2, 1}, someCalls(), d, impl.Access{}},
	} {
		if got := impl.MatchesOf(c.s, c.l, c.facts, c.a); len(got) != 0 {
			t.Errorf("%s: MatchesOf = %v", why, got)
		}
		for _, choice := range []int{-1, 0, 1, math.MaxInt, math.MinInt} {
			if got := impl.RespondTo(c.s, c.l, c.facts, c.a, choice); len(got) != 0 {
				t.Errorf("%s: RespondTo(%d) = %v", why, choice, got)
			}
		}
		for _, response := range [][]impl.Fact{nil, c.facts, c.facts[:1], d[5:7]} {
			if impl.IsResponse(c.s, c.l, c.facts, c.a, response) {
				t.Errorf("%s: %v is a response", why, response)
			}
		}
	}
}

func TestFormatMethod(t *testing.T) {
	for _, c := range []struct {
		m    impl.Method
		want string
	}{
		{method(0, []int{0}, 0, 2, 5), "r0 in 0 limit 0 cost 2 quota 5"},
		{method(1, nil, 0, 1, 9), "r1 in free limit 0 cost 1 quota 9"},
		{method(1, []int{}, 9, 99, 99), "r1 in free limit 9 cost 99 quota 99"},
		{method(2, []int{0, 1, 2}, 1, 10, 1), "r2 in 0,1,2 limit 1 cost 10 quota 1"},
		{method(0, []int{1, 2}, 3, 0, 10), "r0 in 1,2 limit 3 cost 0 quota 10"},
		{impl.Method{}, ""},
		{method(3, nil, 0, 0, 1), ""},
		{method(-1, nil, 0, 0, 1), ""},
		{method(0, []int{3}, 0, 0, 1), ""},
		{method(0, []int{-1}, 0, 0, 1), ""},
		{method(0, []int{1, 0}, 0, 0, 1), ""},
		{method(0, []int{1, 1}, 0, 0, 1), ""},
		{method(0, []int{0, 1, 2, 3}, 0, 0, 1), ""},
		{method(0, nil, 10, 0, 1), ""},
		{method(0, nil, -1, 0, 1), ""},
		{method(0, nil, 0, 100, 1), ""},
		{method(0, nil, 0, -1, 1), ""},
		{method(0, nil, 0, 0, 100), ""},
		{method(0, nil, 0, 0, 0), ""},
		{method(0, nil, 0, 0, -1), ""},
	} {
		if got := impl.FormatMethod(c.m); got != c.want {
			t.Errorf("FormatMethod(%v) = %q, want %q", c.m, got, c.want)
		}
	}
}

func TestParseMethodInvalid(t *testing.T) {
	isZero := func(m impl.Method, ok bool) bool { return !ok && equalMethods(m, impl.Method{}) }
	for _, text := range []string{"", " ", "r0", "r0 in", "r0 in 0", "r0 in 0 limit 0", "r0 in 0 limit 0 cost 2", "r0 in 0 limit 0 cost 2 quota", "r0 in 0 limit 0 cost 2 quota ",
		"in 0 limit 0 cost 2 quota 5", "r in 0 limit 0 cost 2 quota 5", "0 in 0 limit 0 cost 2 quota 5", "rr0 in 0 limit 0 cost 2 quota 5", "R0 in 0 limit 0 cost 2 quota 5", "m0 in 0 limit 0 cost 2 quota 5",
		"r00 in 0 limit 0 cost 2 quota 5", "r-0 in 0 limit 0 cost 2 quota 5", "r-1 in 0 limit 0 cost 2 quota 5", "r2 in 0 limit 0 cost 2 quota 5", "r3 in free limit 0 cost 2 quota 5",
		"r0 in 2 limit 0 cost 2 quota 5", "r0 in -1 limit 0 cost 2 quota 5", "r0 in 00 limit 0 cost 2 quota 5", "r0 in 0,0 limit 0 cost 2 quota 5", "r0 in 1,0 limit 0 cost 2 quota 5", "r0 in 0,1,2 limit 0 cost 2 quota 5",
		"r0 in 0, limit 0 cost 2 quota 5", "r0 in ,0 limit 0 cost 2 quota 5", "r0 in 0,,1 limit 0 cost 2 quota 5", "r0 in 0, 1 limit 0 cost 2 quota 5", "r0 in  limit 0 cost 2 quota 5", "r0 in none limit 0 cost 2 quota 5",
		"r0 in Free limit 0 cost 2 quota 5", "r0 in free,0 limit 0 cost 2 quota 5", "r0 in 0,free limit 0 cost 2 quota 5", "r0 in x limit 0 cost 2 quota 5", "r0 in limit 0 cost 2 quota 5", "r1 in 1 limit 0 cost 0 quota 1",
		"r0 by 0 limit 0 cost 2 quota 5", "r0 in 0 most 0 cost 2 quota 5", "r0 in 0 limit 0 price 2 quota 5", "r0 in 0 limit 0 cost 2 Quota 5", "r0 in 0 cost 2 limit 0 quota 5", "r0 in 0 limit 0 quota 5 cost 2",
		"r0 in 0 limit 10 cost 2 quota 5", "r0 in 0 limit -1 cost 2 quota 5", "r0 in 0 limit 00 cost 2 quota 5", "r0 in 0 limit +0 cost 2 quota 5", "r0 in 0 limit x cost 2 quota 5", "r0 in 0 limit  cost 2 quota 5",
		"r0 in 0 limit 0 cost 100 quota 5", "r0 in 0 limit 0 cost -1 quota 5", "r0 in 0 limit 0 cost 02 quota 5", "r0 in 0 limit 0 cost 2 quota 100", "r0 in 0 limit 0 cost 2 quota 0", "r0 in 0 limit 0 cost 2 quota -5",
		"r0 in 0 limit 0 cost 2 quota 05", " r0 in 0 limit 0 cost 2 quota 5", "r0 in 0 limit 0 cost 2 quota 5 ", "r0  in 0 limit 0 cost 2 quota 5", "r0 in 0 limit 0 cost 2  quota 5", "r0\tin 0 limit 0 cost 2 quota 5",
		"r0 in 0 limit 0 cost 2 quota 5\n", "r0 in 0 limit 0 cost 2 quota 5 limit 0", "r0 in 0 limit 0 cost 2 quota 5 r0 in 0 limit 0 cost 2 quota 5", "r0 in 0 limit 0 cost 2 quota 5\x00", "r0 in 0 limit 0 cost 2 quota \xff",
		"r0 in 0 limit 18446744073709551616 cost 2 quota 5", "r0 in 0 limit 0 cost 2 quota 18446744073709551617", "r18446744073709551616 in 0 limit 0 cost 2 quota 5", "r0 in 0 limit \u0660 cost 2 quota 5"} {
		if m, ok := impl.ParseMethod([]int{2, 1}, text); !isZero(m, ok) {
			t.Errorf("ParseMethod(%q) = %v, %v, want no value", text, m, ok)
		}
	}
	for _, s := range [][]int{nil, {0}, {4}, {2, 0}, {2, 4}, {1}, {1, 2}, {2, 1, 0}, {2, 1, 1, 1}} {
		if m, ok := impl.ParseMethod(s, "r0 in 1 limit 0 cost 2 quota 5"); !isZero(m, ok) {
			t.Errorf("schema %v: %v, %v, want no value", s, m, ok)
		}
	}
}

func TestMethodInverse(t *testing.T) {
	schemas := append(allSchemas(), nil, []int{1, 4}, []int{1, 1, 1, 1})
	methods := someMethods()
	for limit := range 10 {
		for cost := range 100 {
			methods = append(methods, method(2, []int{0, 2}, limit, cost, 99-cost), method(0, []int{0}, limit, 99-cost, cost+1))
		}
	}
	for _, m := range methods {
		text := impl.FormatMethod(m)
		if isFormat := isMethod([]int{3, 3, 3}, m); isFormat != (text != "") {
			t.Fatalf("FormatMethod(%v) = %q", m, text)
		}
		for _, s := range schemas {
			isValid := impl.IsSchema(s) && isMethod(s, m)
			got, ok := impl.ParseMethod(s, text)
			if ok != isValid || ok && !equalMethods(got, m) || !ok && !equalMethods(got, impl.Method{}) {
				t.Fatalf("schema %v: ParseMethod(FormatMethod(%v)) = %v, %v", s, m, got, ok)
			}
			if want, wantOk := readMethod(s, text); impl.IsSchema(s) && (ok != wantOk || !equalMethods(got, want)) {
				t.Fatalf("schema %v: ParseMethod(%q) = %v, %v, want %v", s, text, got, ok, want)
			}
		}
	}
}

func TestParseMethodAcceptsNothingElse(t *testing.T) {
	parts := []string{"", "r", "0", "1", "2", "3", "9", ",", " ", "-", "+", "in", "free", "limit", "cost", "quota", " in ", "r1 ", "0,1", "1,2", " cost 7", " quota 99", "10", "99", "\x00", "\xff", "\n"}
	texts := []string{"r0 in 0 limit 0 cost 2 quota 5", "r1 in free limit 9 cost 10 quota 99", "r1 in 0,2 limit 1 cost 0 quota 1", "r1 in 0,1,2 limit 0 cost 99 quota 10"}
	checkAcceptsNothingElse(t, []int{1, 3}, texts, parts, impl.ParseMethod, readMethod, equalMethods)
}

func TestFormatAccess(t *testing.T) {
	for _, c := range []struct {
		a    impl.Access
		want string
	}{
		{access(0, 1), "m0(1)"},
		{access(1), "m1()"},
		{impl.Access{}, "m0()"},
		{impl.Access{Method: 4, Values: []int{}}, "m4()"},
		{access(3, 0, 9), "m3(0,9)"},
		{access(2, 9, 0, 9), "m2(9,0,9)"},
		{access(5), ""},
		{access(-1), ""},
		{access(math.MaxInt), ""},
		{access(math.MinInt, 1), ""},
		{access(0, 1, 2, 3, 4), ""},
		{access(0, 10), ""},
		{access(0, -1), ""},
		{access(0, 1, 2, 10), ""},
		{access(0, 1, math.MinInt), ""},
	} {
		if got := impl.FormatAccess(c.a); got != c.want {
			t.Errorf("FormatAccess(%v) = %q, want %q", c.a, got, c.want)
		}
	}
}

func TestSameAccesses(t *testing.T) {
	someAccesses := func() []impl.Access {
		return []impl.Access{access(math.MinInt), access(-1), access(0), access(0, 0), access(0, 0, 0), access(0, 0, 0, 0), access(0, 0, 0, 0, 0), access(0, 0, 0, 0, 1), access(0, 1), access(0, -1), access(1), access(1, 0), access(4, 10), access(5, math.MaxInt)}
	}
	checkSameLists(t, someAccesses(), someAccesses(), impl.SameAccesses)
	if !impl.SameAccesses([]impl.Access{access(1)}, []impl.Access{{Method: 1, Values: []int{}}}) {
		t.Error("a nil list and an empty one differ")
	}
	if impl.SameAccesses([]impl.Access{access(0, 1, 2)}, []impl.Access{access(0, 2, 1)}) {
		t.Error("the order does not count")
	}
}

// checkFactsApart changes the facts of a result one after the other, and what is behind their values.
func checkFactsApart(t *testing.T, got []impl.Fact) {
	t.Helper()
	var lists [][]int
	for _, f := range got {
		lists = append(lists, f.Values)
	}
	checkTuplesApart(t, lists)
}

// All lists have spare capacity with other numbers in it.
func TestCallsLeaveArguments(t *testing.T) {
	numbers := []int{1, 77, 2, 77, 1, 2, 77, 3, 2, 77, 4, 2, 77, 5, 77}
	schema := []int{2, 1, 77}
	methods := []impl.Method{method(0, numbers[0:1], 2, 0, 1), method(1, nil, 0, 0, 1), method(7, nil, 7, 7, 7)}
	facts := []impl.Fact{fact(0, numbers[4:6]...), fact(0, numbers[7:9]...), fact(0, numbers[10:12]...), fact(1, numbers[13:14]...), fact(9, 9)}
	a := access(0, numbers[2:3]...)
	numbersBefore, factsBefore := slices.Clone(numbers), deepCopy(facts)
	want := []impl.Fact{fact(0, 1, 2), fact(0, 4, 2)}
	matches := impl.MatchesOf(schema[:2], methods[:2], facts[:4], a)
	response := impl.RespondTo(schema[:2], methods[:2], facts[:4], a, 2)
	if !equalFacts(matches, factsBefore[:3]) || !equalFacts(response, want) || !impl.IsResponse(schema[:2], methods[:2], facts[:4], a, facts[1:3]) {
		t.Errorf("%v and %v", matches, response)
	}
	if impl.FormatMethod(methods[0]) != "r0 in 1 limit 2 cost 0 quota 1" || impl.FormatAccess(a) != "m0(2)" || !impl.SameAccesses([]impl.Access{a}, []impl.Access{a}) {
		t.Error("formats")
	}
	check := func(what string) {
		if !slices.Equal(numbers, numbersBefore) || !slices.Equal(schema, []int{2, 1, 77}) || !reflect.DeepEqual(facts, factsBefore) || methods[2].Rel != 7 {
			t.Errorf("after %s the arguments are %v, %v, %v and %v", what, schema, numbers, facts, methods)
		}
	}
	check("the calls")
	checkFactsApart(t, matches)
	checkFactsApart(t, response)
	for _, l := range [][]impl.Fact{matches, response} {
		_ = append(l, fact(-5))
		l[0] = fact(-6)
	}
	check("a change of the results")
	if !equalFacts(impl.RespondTo(schema[:2], methods[:2], facts[:4], a, 2), want) {
		t.Error("a result keeps memory of the one before")
	}
}

func TestParsedMethodSharesNothing(t *testing.T) {
	schema := []int{3, 77}
	got, _ := impl.ParseMethod(schema[:1], "r0 in 0,1 limit 0 cost 2 quota 5")
	got.Inputs[0] = -5
	_ = append(got.Inputs, -6)
	again, ok := impl.ParseMethod(schema[:1], "r0 in 0,1 limit 0 cost 2 quota 5")
	if !ok || !equalMethods(again, method(0, []int{0, 1}, 0, 2, 5)) || !slices.Equal(schema, []int{3, 77}) {
		t.Errorf("%v, %v with the schema %v", again, ok, schema)
	}
}
