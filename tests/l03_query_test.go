package tests

import (
	"math"
	"reflect"
	"regexp"
	"slices"
	"strings"
	"testing"

	"loop.example/g01989/impl"
)

func atom(rel int, terms ...int) impl.Atom {
	return impl.Atom{Rel: rel, Terms: terms}
}

func query(head []int, atoms ...impl.Atom) impl.Query {
	return impl.Query{Head: head, Atoms: atoms}
}

// equalQueries holds nil and empty lists for equal.
func equalQueries(a, b impl.Query) bool {
	return slices.Equal(a.Head, b.Head) && slices.EqualFunc(a.Atoms, b.Atoms, func(x, y impl.Atom) bool {
		return x.Rel == y.Rel && slices.Equal(x.Terms, y.Terms)
	})
}

func copyQuery(q impl.Query) impl.Query {
	c := impl.Query{Head: slices.Clone(q.Head)}
	for _, a := range q.Atoms {
		c.Atoms = append(c.Atoms, atom(a.Rel, slices.Clone(a.Terms)...))
	}
	return c
}

var (
	queryPattern = regexp.MustCompile(`^(?:yes|x[0-7](?:,x[0-7]){0,2}) if ((?:r[0-2]\(x?[0-9](?:,x?[0-9]){0,2}\)(?: and |$)){1,4})$`)
	atomPattern  = regexp.MustCompile(`r([0-2])\(([^)]*)\)`)
	termPattern  = regexp.MustCompile(`(x?)([0-9])`)
)

func readTerms(text string) []int {
	var l []int
	for _, m := range termPattern.FindAllStringSubmatch(text, -1) {
		n := int(m[2][0] - '0')
		if m[1] == "x" {
			n += 10
		}
		l = append(l, n)
	}
	return l
}

// readQuery tells without the program which query a text is. A word at the end that joins nothing fails at the second condition.
func readQuery(s []int, text string) (impl.Query, bool) {
	m := queryPattern.FindStringSubmatch(text)
	if m == nil || strings.HasSuffix(text, " ") {
		return impl.Query{}, false
	}
	head, body := strings.TrimSuffix(text, " if "+m[1]), m[1]
	q := impl.Query{Head: readTerms(head)}
	for _, parts := range atomPattern.FindAllStringSubmatch(body, -1) {
		a := atom(int(parts[1][0]-'0'), readTerms(parts[2])...)
		if a.Rel >= len(s) || len(a.Terms) != s[a.Rel] || slices.Max(a.Terms) > 17 {
			return impl.Query{}, false
		}
		q.Atoms = append(q.Atoms, a)
	}
	for _, word := range termPattern.FindAllString(head, -1) {
		if !strings.Contains(body, word) {
			return impl.Query{}, false
		}
	}
	return q, true
}

func TestQueryLimits(t *testing.T) {
	if impl.FirstVar != 10 || impl.MaxVars != 8 || impl.MaxAtoms != 4 || impl.MaxHead != 3 {
		t.Error("limits")
	}
}

func TestIsVarAndIsTerm(t *testing.T) {
	numbers := []int{math.MinInt, math.MinInt + 10, math.MaxInt, math.MaxInt - 8}
	for n := -300; n <= 300; n++ {
		numbers = append(numbers, n)
	}
	for _, n := range numbers {
		if got := impl.IsVar(n); got != (n >= 10 && n <= 17) {
			t.Errorf("IsVar(%d) = %v", n, got)
		}
		if got := impl.IsTerm(n); got != (n >= 0 && n <= 17) {
			t.Errorf("IsTerm(%d) = %v", n, got)
		}
	}
}

func TestIsAtom(t *testing.T) {
	for _, c := range []struct {
		s    []int
		a    impl.Atom
		want bool
	}{
		{[]int{2, 1}, atom(0, 1, 10), true},
		{[]int{2, 1}, atom(0, 17, 17), true},
		{[]int{2, 1}, atom(1, 0), true},
		{[]int{2, 1}, atom(1, 9), true},
		{[]int{1, 1, 3}, atom(2, 10, 0, 11), true},
		{[]int{2, 1}, atom(0, 1), false},
		{[]int{2, 1}, atom(0, 1, 10, 11), false},
		{[]int{2, 1}, atom(0), false},
		{[]int{2, 1}, atom(1, 1, 2), false},
		{[]int{2, 1}, atom(2, 1), false},
		{[]int{2, 1}, atom(-1, 1), false},
		{[]int{2, 1}, atom(math.MaxInt, 1), false},
		{[]int{2, 1}, atom(math.MinInt, 1), false},
		{[]int{2, 1}, atom(0, 18, 2), false},
		{[]int{2, 1}, atom(0, 1, 18), false},
		{[]int{2, 1}, atom(0, -1, 2), false},
		{[]int{2, 1}, atom(0, 10, -1), false},
		{[]int{2, 1}, atom(1, math.MaxInt), false},
		{[]int{2, 1}, impl.Atom{}, false},
		{nil, atom(0, 1), false},
		{nil, impl.Atom{}, false},
		{[]int{1, 4}, atom(0, 1), false},
		{[]int{1, 0}, atom(1), false},
		{[]int{4}, atom(0, 1, 2, 3, 4), false},
		{[]int{1, 1, 1, 1}, atom(3, 1), false},
		{[]int{1, 1, 1, 1}, atom(0, 1), false},
	} {
		if got := impl.IsAtom(c.s, c.a); got != c.want {
			t.Errorf("IsAtom(%v, %v) = %v", c.s, c.a, got)
		}
	}
}

func TestIsQuery(t *testing.T) {
	a := atom(1, 10)
	for why, c := range map[string]struct {
		s    []int
		q    impl.Query
		want bool
	}{
		"one variable":                  {[]int{2, 1}, query([]int{10}, atom(0, 1, 10), a), true},
		"a head without variables":      {[]int{2, 1}, query(nil, atom(0, 1, 10)), true},
		"an empty head":                 {[]int{2, 1}, query([]int{}, a), true},
		"no variables at all":           {[]int{2, 1}, query(nil, atom(0, 1, 2)), true},
		"as many atoms as allowed":      {[]int{2, 1}, query(nil, a, a, a, a), true},
		"as many variables as allowed":  {[]int{2, 1}, query([]int{12, 10, 11}, atom(0, 10, 11), atom(1, 12)), true},
		"a variable twice":              {[]int{2, 1}, query([]int{10, 10}, a), true},
		"variables of different atoms":  {[]int{2, 1}, query([]int{17, 10}, a, atom(0, 3, 17)), true},
		"all variables there are":       {[]int{2, 1}, query([]int{10}, atom(0, 10, 11), atom(0, 12, 13), atom(0, 14, 15), atom(0, 16, 17)), true},
		"no atoms":                      {[]int{2, 1}, query(nil), false},
		"no atoms but a head":           {[]int{2, 1}, query([]int{10}), false},
		"too many atoms":                {[]int{2, 1}, query(nil, a, a, a, a, a), false},
		"too many variables":            {[]int{2, 1}, query([]int{10, 10, 10, 10}, a), false},
		"a variable of no atom":         {[]int{2, 1}, query([]int{11}, a), false},
		"the last one of no atom":       {[]int{2, 1}, query([]int{10, 10, 11}, a), false},
		"a constant in the head":        {[]int{2, 1}, query([]int{3}, atom(0, 3, 10)), false},
		"no term in the head":           {[]int{2, 1}, query([]int{18}, atom(1, 18)), false},
		"a negative number in the head": {[]int{2, 1}, query([]int{-1}, a), false},
		"first atom not valid":          {[]int{2, 1}, query([]int{10}, atom(0, 10), a), false},
		"last atom not valid":           {[]int{2, 1}, query([]int{10}, a, atom(2, 1)), false},
		"a term not valid":              {[]int{2, 1}, query([]int{10}, atom(0, 10, 18)), false},
		"no schema":                     {nil, query([]int{10}, a), false},
		"no schema and no atoms":        {nil, query(nil), false},
		"a schema that is not valid":    {[]int{2, 1, 4}, query([]int{10}, a), false},
		"an atom of another schema":     {[]int{2}, query([]int{10}, a), false},
	} {
		if got := impl.IsQuery(c.s, c.q); got != c.want {
			t.Errorf("%s: IsQuery(%v, %v) = %v", why, c.s, c.q, got)
		}
	}
}

func TestVarsAndConstants(t *testing.T) {
	for _, c := range []struct {
		q         impl.Query
		vars      []int
		constants []int
	}{
		{query([]int{11}, atom(0, 3, 11), atom(1, 11), atom(0, 10, 9)), []int{10, 11}, []int{3, 9}},
		{query(nil, atom(0, 17, 10), atom(0, 0, 9)), []int{10, 17}, []int{0, 9}},
		{query(nil, atom(0, 5, 5), atom(0, 5, 5)), nil, []int{5}},
		{query(nil, atom(0, 12, 12)), []int{12}, nil},
		{query([]int{10, 4}), nil, nil},
		{query([]int{10, 4}, atom(0)), nil, nil},
		{impl.Query{}, nil, nil},
		{query(nil, atom(-3, 18, -1, 10, math.MaxInt, math.MinInt, 4), atom(99)), []int{10}, []int{4}},
		{query([]int{1, 2, 3, 4, 5}, atom(0, 17, 16), atom(0, 15, 14), atom(0, 13, 12), atom(0, 11, 10), atom(0, 9, 8), atom(0, 7, 6, 5, 4, 3, 2, 1, 0)),
			[]int{10, 11, 12, 13, 14, 15, 16, 17}, []int{0, 1, 2, 3, 4, 5, 6, 7, 8, 9}},
	} {
		if got := impl.VarsOf(c.q); !slices.Equal(got, c.vars) {
			t.Errorf("VarsOf(%v) = %v, want %v", c.q, got, c.vars)
		}
		if got := impl.ConstantsOf(c.q); !slices.Equal(got, c.constants) {
			t.Errorf("ConstantsOf(%v) = %v, want %v", c.q, got, c.constants)
		}
	}
}

// Whatever the order of four terms of any kind, and wherever atoms end, each is found once.
func TestVarsAndConstantsInAnyOrder(t *testing.T) {
	terms := []int{-1, 0, 4, 9, 10, 13, 17, 18}
	for code := range 8 * 8 * 8 * 8 * 5 {
		l := []int{terms[code%8], terms[code/8%8], terms[code/64%8], terms[code/512%8]}
		cut := code / 4096
		q := query(nil, atom(0, l[:cut]...), atom(0, l[cut:]...))
		var vars, constants []int
		for n := range 18 {
			if slices.Contains(l, n) && n >= 10 {
				vars = append(vars, n)
			} else if slices.Contains(l, n) {
				constants = append(constants, n)
			}
		}
		if got := impl.VarsOf(q); !slices.Equal(got, vars) {
			t.Fatalf("VarsOf(%v) = %v, want %v", q, got, vars)
		}
		if got := impl.ConstantsOf(q); !slices.Equal(got, constants) {
			t.Fatalf("ConstantsOf(%v) = %v, want %v", q, got, constants)
		}
	}
}

func TestFormatAtom(t *testing.T) {
	for _, c := range []struct {
		a    impl.Atom
		want string
	}{
		{atom(0, 1, 10), "r0(1,x0)"},
		{atom(0, 0), "r0(0)"},
		{atom(1, 9), "r1(9)"},
		{atom(2, 10, 11, 17), "r2(x0,x1,x7)"},
		{atom(1, 10, 10), "r1(x0,x0)"},
		{atom(-1, 1), ""},
		{atom(3, 1), ""},
		{atom(math.MaxInt, 1), ""},
		{atom(math.MinInt, 1), ""},
		{atom(0), ""},
		{atom(0, 1, 10, 3, 11), ""},
		{atom(0, 18), ""},
		{atom(0, -1), ""},
		{atom(0, 1, 10, 18), ""},
		{atom(0, 1, math.MinInt), ""},
		{atom(0, math.MaxInt, 1), ""},
		{impl.Atom{}, ""},
	} {
		if got := impl.FormatAtom(c.a); got != c.want {
			t.Errorf("FormatAtom(%v) = %q, want %q", c.a, got, c.want)
		}
	}
}

func TestFormatQuery(t *testing.T) {
	a := atom(1, 10)
	for _, c := range []struct {
		q    impl.Query
		want string
	}{
		{query([]int{10}, atom(0, 1, 10), a), "x0 if r0(1,x0) and r1(x0)"},
		{query(nil, atom(0, 1, 10)), "yes if r0(1,x0)"},
		{query([]int{}, atom(2, 1, 2, 3)), "yes if r2(1,2,3)"},
		{query([]int{17, 10, 17}, atom(0, 10, 17)), "x7,x0,x7 if r0(x0,x7)"},
		{query(nil, a, a, a, a), "yes if r1(x0) and r1(x0) and r1(x0) and r1(x0)"},
		{query([]int{10}, a, atom(1, 10, 11)), "x0 if r1(x0) and r1(x0,x1)"},
		{impl.Query{}, ""},
		{query([]int{10}), ""},
		{query(nil, a, a, a, a, a), ""},
		{query([]int{10, 10, 10, 10}, a), ""},
		{query([]int{11}, a), ""},
		{query([]int{10, 11}, a), ""},
		{query([]int{3}, atom(0, 3, 10)), ""},
		{query([]int{18}, atom(0, 18, 10)), ""},
		{query([]int{-1}, a), ""},
		{query([]int{10}, a, atom(3, 1)), ""},
		{query([]int{10}, a, atom(-1, 1)), ""},
		{query([]int{10}, atom(1), a), ""},
		{query([]int{10}, a, atom(1, 1, 2, 3, 4)), ""},
		{query([]int{10}, atom(0, 18), a), ""},
		{query(nil, atom(0, -1)), ""},
	} {
		if got := impl.FormatQuery(c.q); got != c.want {
			t.Errorf("FormatQuery(%v) = %q, want %q", c.q, got, c.want)
		}
	}
}

func TestParseQuery(t *testing.T) {
	for _, c := range []struct {
		text string
		want impl.Query
	}{
		{"x0 if r0(1,x0) and r1(x0)", query([]int{10}, atom(0, 1, 10), atom(1, 10))},
		{"yes if r0(1,2)", query(nil, atom(0, 1, 2))},
		{"yes if r0(x0,x7)", query(nil, atom(0, 10, 17))},
		{"x7,x0,x7 if r0(x0,x7)", query([]int{17, 10, 17}, atom(0, 10, 17))},
		{"yes if r1(0) and r1(9) and r1(x3) and r1(x3)", query(nil, atom(1, 0), atom(1, 9), atom(1, 13), atom(1, 13))},
	} {
		if got, ok := impl.ParseQuery([]int{2, 1}, c.text); !ok || !equalQueries(got, c.want) {
			t.Errorf("ParseQuery(%q) = %v, %v, want %v", c.text, got, ok, c.want)
		}
	}
}

func TestParseQueryInvalid(t *testing.T) {
	isZero := func(q impl.Query, ok bool) bool { return !ok && len(q.Head) == 0 && len(q.Atoms) == 0 }
	for _, text := range []string{"", " ", "yes", "x0", "if", "yes if", "yes if ", " if r1(x0)", "if r1(x0)", "r1(x0)", "no if r1(x0)", "Yes if r1(x0)", "yes  if r1(x0)", "yes if  r1(x0)",
		" yes if r1(x0)", "yes if r1(x0) ", "yes if r1(x0)\n", "yes\tif r1(x0)", "yes IF r1(x0)", "yes if yes if r1(x0)", "x0 if x0 if r1(x0)", "yes if r1(x0) if r1(x0)",
		"yes,x0 if r1(x0)", "x0,yes if r1(x0)", "x0, if r1(x0)", ",x0 if r1(x0)", "x0,,x0 if r1(x0)", "x0 x0 if r1(x0)", "x0,x0,x0,x0 if r1(x0)", "x1 if r1(x0)", "x0,x1 if r1(x0)",
		"3 if r1(3)", "10 if r1(x0)", "x-1 if r1(9)", "x8 if r1(x8)", "x00 if r1(x0)", "x+0 if r1(x0)", "x-0 if r1(x0)", "X0 if r1(x0)", "x if r1(x0)", "xx0 if r1(x0)", "x0if r1(x0)",
		"yes if r1(10)", "yes if r1(17)", "yes if r1(x8)", "yes if r1(x-1)", "yes if r1(x-10)", "yes if r1(-1)", "yes if r1(x07)", "yes if r1(07)", "yes if r1(x)", "yes if r1()", "yes if r1(x0,)",
		"yes if r1(x0,x0)", "yes if r0(x0)", "yes if r0(1,2,3)", "yes if r2(x0)", "yes if r-1(x0)", "yes if r01(x0)", "yes if 1(x0)", "yes if r1(x0", "yes if r1x0)", "yes if rr1(x0)",
		"yes if r1(x0) or r1(x1)", "yes if r1(x0) and", "yes if r1(x0) and ", "yes if and r1(x0)", "yes if  and r1(x0)", "yes if r1(x0) and and r1(x0)", "yes if r1(x0) and  and r1(x0)",
		"yes if r1(x0) r1(x0)", "yes if r1(x0),r1(x0)", "yes if r1(x0)and r1(x0)", "yes if r1(x0) AND r1(x0)", "yes if r1(x0) and r1(x0) and r1(x0) and r1(x0) and r1(x0)",
		"yes if r1(18446744073709551616)", "yes if r1(x18446744073709551616)", "yes if r1(x\u0660)", "yes if r1(x0)\x00", "yes if r1(\xff)"} {
		if q, ok := impl.ParseQuery([]int{2, 1}, text); !isZero(q, ok) {
			t.Errorf("ParseQuery(%q) = %v, %v, want no value", text, q, ok)
		}
	}
	for _, s := range [][]int{nil, {0}, {4}, {2, 0}, {2, 4}, {2}, {1, 1}, {2, 2}, {2, 1, 0}, {2, 1, 1, 1}} {
		if q, ok := impl.ParseQuery(s, "x0 if r0(1,x0) and r1(x0)"); !isZero(q, ok) {
			t.Errorf("schema %v: %v, %v, want no value", s, q, ok)
		}
	}
}

// someQueries has queries, valid for some schema or not, of all numbers of atoms and of head elements around the limits.
func someQueries() []impl.Query {
	heads := [][]int{nil, {10}, {11}, {17}, {18}, {9}, {10, 10}, {11, 10}, {17, 10, 11}, {10, 11, 3}, {10, 10, 10, 10}}
	atoms := []impl.Atom{atom(0, 10), atom(0, 17, 10), atom(1, 0, 11, 9), atom(1, 11), atom(2, 3, 17), atom(2, 5), atom(0, 18), atom(3, 10), atom(0)}
	var all []impl.Query
	for _, head := range heads {
		all = append(all, query(head))
		for _, a := range atoms {
			all = append(all, query(head, a), query(head, a, a, a, a), query(head, a, a, a, a, a))
			for _, b := range atoms {
				all = append(all, query(head, a, b), query(head, a, b, a))
			}
		}
	}
	return all
}

func TestQueryInverse(t *testing.T) {
	schemas := append(allSchemas(), nil, []int{1, 4}, []int{1, 1, 1, 1})
	counts := map[bool]int{}
	for _, q := range someQueries() {
		text := impl.FormatQuery(q)
		isValid := false
		for _, s := range schemas {
			got, ok := impl.ParseQuery(s, text)
			if ok != impl.IsQuery(s, q) || ok && !equalQueries(got, q) || !ok && len(got.Head)+len(got.Atoms) > 0 {
				t.Fatalf("schema %v: ParseQuery(FormatQuery(%v)) = %v, %v", s, q, got, ok)
			}
			if want, wantOk := readQuery(s, text); impl.IsSchema(s) && (ok != wantOk || !equalQueries(got, want)) {
				t.Fatalf("schema %v: ParseQuery(%q) = %v, %v, want %v", s, text, got, ok, want)
			}
			isValid = isValid || ok
		}
		counts[isValid]++
	}
	if counts[true] < 100 || counts[false] < 100 {
		t.Errorf("valid or not are %v", counts)
	}
}

// checkAcceptsNothingElse changes texts in a place or two, and compares a parser with a reader that does without the program.
func checkAcceptsNothingElse[T any](t *testing.T, s []int, texts, parts []string, parse, read func([]int, string) (T, bool), equal func(a, b T) bool) {
	t.Helper()
	accepted := 0
	check := func(text string) {
		want, valid := read(s, text)
		got, ok := parse(s, text)
		if ok != valid || !equal(got, want) {
			t.Fatalf("%q is parsed as %v, %v, want %v, %v", text, got, ok, want, valid)
		}
		if ok {
			accepted++
		}
	}
	for _, text := range texts {
		for at := range len(text) + 1 {
			for end := at; end <= min(at+4, len(text)); end++ {
				for _, a := range parts {
					for _, b := range parts {
						check(text[:at] + a + b + text[end:])
					}
				}
			}
		}
	}
	if accepted < 100 {
		t.Errorf("only %d accepted", accepted)
	}
}

func TestParseQueryAcceptsNothingElse(t *testing.T) {
	parts := []string{"", "x", "r", "0", "1", "2", "7", "8", ",", "(", ")", " ", "-", "+", "yes", "if", "and", " if ", " and ", "x0", "x1,", ",9", " and r0(x1)", " and r1(3,x0)", "r0(x1)", "\x00", "\xff"}
	texts := []string{"yes if r0(4)", "x0 if r0(x0)", "x1,x0 if r1(x0,x1)", "yes if r0(x0) and r1(2,x1)", "x7,x1,x7 if r1(x7,x1) and r0(1) and r0(2) and r0(2)"}
	checkAcceptsNothingElse(t, []int{1, 2}, texts, parts, impl.ParseQuery, readQuery, equalQueries)
}

func TestSameQueries(t *testing.T) {
	all := someQueries()
	all = append(all, query([]int{math.MinInt}, atom(math.MaxInt, -1, -2, -3, -4, -5)), query([]int{math.MinInt}, atom(math.MaxInt, -1, -2, -3, -4, -6)), query([]int{1, 2, 3, 4, 5}))
	for i, a := range all {
		for k, b := range all {
			if got := impl.SameQueries(a, b); got != (i == k) {
				t.Fatalf("SameQueries(%v, %v) = %v", a, b, got)
			}
		}
		if !impl.SameQueries(a, copyQuery(a)) {
			t.Fatalf("%v is not the same as a copy", a)
		}
	}
	if !impl.SameQueries(query(nil, atom(1)), impl.Query{Head: []int{}, Atoms: []impl.Atom{{Rel: 1, Terms: []int{}}}}) || !impl.SameQueries(impl.Query{}, impl.Query{Head: []int{}, Atoms: []impl.Atom{}}) {
		t.Error("a nil list and an empty one differ")
	}
	if impl.SameQueries(query([]int{10, 11}, atom(0, 10, 11)), query([]int{11, 10}, atom(0, 10, 11))) || impl.SameQueries(query(nil, atom(0, 1), atom(0, 2)), query(nil, atom(0, 2), atom(0, 1))) {
		t.Error("the order does not count")
	}
}

// The lists of the query, and the schema, have spare capacity with other numbers in it.
func TestQueriesLeaveArguments(t *testing.T) {
	schema := []int{2, 1, 3, 77}
	numbers := []int{11, 10, 77, 10, 11, 77, 10, 77}
	atoms := []impl.Atom{atom(0, numbers[3:5]...), atom(1, numbers[6:7]...), atom(7, 7)}
	q := impl.Query{Head: numbers[:2], Atoms: atoms[:2]}
	schemaBefore, numbersBefore, atomsBefore := slices.Clone(schema), slices.Clone(numbers), copyQuery(query(nil, atoms...)).Atoms
	if !impl.IsQuery(schema[:2], q) || !impl.SameQueries(q, q) || impl.FormatQuery(q) != "x1,x0 if r0(x0,x1) and r1(x0)" {
		t.Error("the query is not valid")
	}
	for _, l := range [][]int{impl.VarsOf(q), impl.ConstantsOf(query(nil, atom(0, 4, 3)))} {
		for i := range l {
			l[i] = -5
		}
		_ = append(l, -6)
	}
	if !slices.Equal(impl.VarsOf(q), []int{10, 11}) {
		t.Error("a result keeps memory of the one before")
	}
	if _, ok := impl.ParseQuery(schema[:2], "x0 if r0(1,x0)"); !ok {
		t.Error("no query")
	}
	if !slices.Equal(schema, schemaBefore) || !slices.Equal(numbers, numbersBefore) || !reflect.DeepEqual(atoms, atomsBefore) {
		t.Errorf("arguments change to %v, %v and %v", schema, numbers, atoms)
	}
}

func TestParsedQuerySharesNothing(t *testing.T) {
	got, _ := impl.ParseQuery([]int{2, 1}, "x0,x1 if r0(x0,x1) and r1(x1) and r1(x1)")
	want := query([]int{10, 11}, atom(0, 10, 11), atom(1, 11), atom(1, 11))
	check := func(what string) {
		if !equalQueries(got, want) {
			t.Errorf("after a change of %s the query is %v", what, got)
		}
	}
	_ = append(got.Head, -5)
	_ = append(got.Atoms, atom(-5))
	got.Head[0], want.Head[0] = -6, -6
	check("the head")
	for i := range got.Atoms {
		_ = append(got.Atoms[i].Terms, -7)
		got.Atoms[i].Terms[0], want.Atoms[i].Terms[0] = -8, -8
		check("an atom")
	}
}
