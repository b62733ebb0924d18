package tests

import (
	"math"
	"reflect"
	"slices"
	"strings"
	"testing"

	"loop.example/g01989/impl"
)

func fact(rel int, values ...int) impl.Fact {
	return impl.Fact{Rel: rel, Values: values}
}

// someFacts has facts of all kinds, valid or not, in strictly ascending order.
func someFacts() []impl.Fact {
	return []impl.Fact{
		fact(math.MinInt, 5),
		fact(-1),
		fact(-1, 9, 9, 9, 9),
		fact(0),
		fact(0, math.MinInt),
		fact(0, -1, 8),
		fact(0, 0),
		fact(0, 0, 0),
		fact(0, 0, 0, 0),
		fact(0, 0, 0, 0, 0),
		fact(0, 0, 0, 0, 0, 0, 0, 1),
		fact(0, 0, 0, 0, 0, 0, 0, 2),
		fact(0, 0, 0, 0, 1),
		fact(0, 0, 0, 1),
		fact(0, 0, 9),
		fact(0, 1),
		fact(0, 10),
		fact(0, math.MaxInt),
		fact(1),
		fact(1, 0),
		fact(2, 3, 4),
		fact(7, 0),
		fact(math.MaxInt),
	}
}

// allSchemas has every valid schema and none else.
func allSchemas() [][]int {
	var all [][]int
	for _, word := range stringsOver("\x01\x02\x03", 3)[1:] {
		var s []int
		for i := range len(word) {
			s = append(s, int(word[i]))
		}
		all = append(all, s)
	}
	return all
}

// factTexts maps each valid text to its fact, built without the program.
func factTexts() map[string]impl.Fact {
	texts := map[string]impl.Fact{}
	for rel := range 3 {
		for _, word := range stringsOver("0123456789", 3)[1:] {
			f := fact(rel)
			for i := range len(word) {
				f.Values = append(f.Values, int(word[i]-'0'))
			}
			text := "r" + string(rune('0'+rel)) + "(" + strings.Join(strings.Split(word, ""), ",") + ")"
			texts[text] = f
		}
	}
	return texts
}

func deepCopy(l []impl.Fact) []impl.Fact {
	var out []impl.Fact
	for _, f := range l {
		out = append(out, fact(f.Rel, append([]int(nil), f.Values...)...))
	}
	return out
}

// equalFacts holds nil and empty lists for equal.
func equalFacts(a, b []impl.Fact) bool {
	return slices.EqualFunc(a, b, func(x, y impl.Fact) bool {
		return x.Rel == y.Rel && slices.Equal(x.Values, y.Values)
	})
}

func TestFactLimits(t *testing.T) {
	if impl.MaxRelations != 3 || impl.MaxArity != 3 || impl.MaxValue != 9 || impl.MaxFacts != 24 {
		t.Error("limits")
	}
}

func TestIsSchema(t *testing.T) {
	for _, s := range append(allSchemas(), []int{3}, []int{1}, []int{1, 2, 3}, []int{3, 3, 3}) {
		if !impl.IsSchema(s) {
			t.Errorf("%v is no schema", s)
		}
	}
	for _, s := range [][]int{nil, {}, {0}, {4}, {-1}, {math.MaxInt}, {math.MinInt}, {1, 0}, {0, 1}, {1, 4}, {4, 1}, {1, 2, 0}, {1, 2, 4}, {1, 1, 1, 1}} {
		if impl.IsSchema(s) {
			t.Errorf("%v is a schema", s)
		}
	}
}

func TestIsFact(t *testing.T) {
	for _, c := range []struct {
		s    []int
		f    impl.Fact
		want bool
	}{
		{[]int{2, 1}, fact(0, 1, 2), true},
		{[]int{2, 1}, fact(0, 0, 9), true},
		{[]int{2, 1}, fact(1, 9), true},
		{[]int{1, 1, 3}, fact(2, 0, 0, 0), true},
		{[]int{2, 1}, fact(0, 1), false},
		{[]int{2, 1}, fact(0, 1, 2, 3), false},
		{[]int{2, 1}, fact(0), false},
		{[]int{2, 1}, fact(1, 1, 2), false},
		{[]int{2, 1}, fact(2, 1), false},
		{[]int{2, 1}, fact(-1, 1), false},
		{[]int{2, 1}, fact(math.MaxInt, 1), false},
		{[]int{2, 1}, fact(math.MinInt, 1), false},
		{[]int{2, 1}, fact(0, 10, 2), false},
		{[]int{2, 1}, fact(0, 1, 10), false},
		{[]int{2, 1}, fact(0, -1, 2), false},
		{[]int{2, 1}, fact(0, 1, -1), false},
		{[]int{2, 1}, fact(1, math.MaxInt), false},
		{[]int{2, 1}, impl.Fact{}, false},
		{nil, fact(0, 1), false},
		{[]int{1, 4}, fact(0, 1), false},
		{[]int{1, 0}, fact(1), false},
		{[]int{4}, fact(0, 1, 2, 3, 4), false},
		{[]int{1, 1, 1, 1}, fact(3, 1), false},
	} {
		if got := impl.IsFact(c.s, c.f); got != c.want {
			t.Errorf("IsFact(%v, %v) = %v", c.s, c.f, got)
		}
	}
}

func TestAreFacts(t *testing.T) {
	var many []impl.Fact
	for n := range 25 {
		many = append(many, fact(0, n/10, n%10))
	}
	for why, c := range map[string]struct {
		s    []int
		l    []impl.Fact
		want bool
	}{
		"none":                    {[]int{2, 1}, nil, true},
		"one":                     {[]int{2, 1}, []impl.Fact{fact(1, 3)}, true},
		"ascending":               {[]int{2, 1}, []impl.Fact{fact(0, 1, 9), fact(0, 2, 0), fact(0, 2, 1), fact(1, 0)}, true},
		"as many as allowed":      {[]int{2, 1}, many[:24], true},
		"one too many":            {[]int{2, 1}, many, false},
		"equal":                   {[]int{2, 1}, []impl.Fact{fact(1, 3), fact(1, 3)}, false},
		"descending relations":    {[]int{2, 1}, []impl.Fact{fact(1, 0), fact(0, 1, 2)}, false},
		"descending values":       {[]int{2, 1}, []impl.Fact{fact(0, 1, 2), fact(0, 1, 1)}, false},
		"descending at the end":   {[]int{2, 1}, []impl.Fact{fact(0, 1, 2), fact(1, 5), fact(1, 4)}, false},
		"first not valid":         {[]int{2, 1}, []impl.Fact{fact(0, 1), fact(1, 3)}, false},
		"last not valid":          {[]int{2, 1}, []impl.Fact{fact(0, 1, 2), fact(1, 10)}, false},
		"none, no schema":         {nil, nil, false},
		"none, schema not valid":  {[]int{1, 4}, nil, false},
		"facts, schema not valid": {[]int{1, 4}, []impl.Fact{fact(0, 1)}, false},
	} {
		if got := impl.AreFacts(c.s, c.l); got != c.want {
			t.Errorf("%s: AreFacts(%v, %v) = %v", why, c.s, c.l, got)
		}
	}
}

func TestCompareFacts(t *testing.T) {
	l := someFacts()
	for i, a := range l {
		for k, b := range l {
			want := 0
			if i < k {
				want = -1
			} else if i > k {
				want = 1
			}
			if got := impl.CompareFacts(a, b); got != want {
				t.Errorf("CompareFacts(%v, %v) = %d, want %d", a, b, got, want)
			}
		}
	}
	if impl.CompareFacts(fact(1), impl.Fact{Rel: 1, Values: []int{}}) != 0 {
		t.Error("a nil list and an empty one differ")
	}
}

func TestAddFact(t *testing.T) {
	for why, c := range map[string]struct {
		l    []impl.Fact
		f    impl.Fact
		want []impl.Fact
	}{
		"to none":                       {nil, fact(0, 1), []impl.Fact{fact(0, 1)}},
		"at the front":                  {[]impl.Fact{fact(0, 2), fact(1, 0)}, fact(0, 1), []impl.Fact{fact(0, 1), fact(0, 2), fact(1, 0)}},
		"between":                       {[]impl.Fact{fact(0, 2), fact(1, 0)}, fact(0, 3), []impl.Fact{fact(0, 2), fact(0, 3), fact(1, 0)}},
		"at the end":                    {[]impl.Fact{fact(0, 2), fact(1, 0)}, fact(1, 1), []impl.Fact{fact(0, 2), fact(1, 0), fact(1, 1)}},
		"there at the front":            {[]impl.Fact{fact(0, 2), fact(1, 0)}, fact(0, 2), []impl.Fact{fact(0, 2), fact(1, 0)}},
		"there at the end":              {[]impl.Fact{fact(0, 2), fact(1, 0)}, fact(1, 0), []impl.Fact{fact(0, 2), fact(1, 0)}},
		"there alone":                   {[]impl.Fact{fact(0, 2)}, fact(0, 2), []impl.Fact{fact(0, 2)}},
		"there without values":          {[]impl.Fact{fact(0)}, impl.Fact{Values: []int{}}, []impl.Fact{fact(0)}},
		"there behind a greater one":    {[]impl.Fact{fact(1, 0), fact(0, 2)}, fact(0, 2), []impl.Fact{fact(1, 0), fact(0, 2)}},
		"there twice":                   {[]impl.Fact{fact(0, 2), fact(0, 2)}, fact(0, 2), []impl.Fact{fact(0, 2), fact(0, 2)}},
		"before the first greater one":  {[]impl.Fact{fact(0, 5), fact(0, 1), fact(0, 7)}, fact(0, 3), []impl.Fact{fact(0, 3), fact(0, 5), fact(0, 1), fact(0, 7)}},
		"behind all, none greater":      {[]impl.Fact{fact(0, 5), fact(0, 1)}, fact(0, 6), []impl.Fact{fact(0, 5), fact(0, 1), fact(0, 6)}},
		"not valid":                     {[]impl.Fact{fact(0, 5)}, fact(-4, 99), []impl.Fact{fact(-4, 99), fact(0, 5)}},
		"longer than the one it begins": {[]impl.Fact{fact(0, 1, 2, 3, 4)}, fact(0, 1, 2, 3), []impl.Fact{fact(0, 1, 2, 3), fact(0, 1, 2, 3, 4)}},
	} {
		if got := impl.AddFact(c.l, c.f); !equalFacts(got, c.want) {
			t.Errorf("%s: AddFact(%v, %v) = %v, want %v", why, c.l, c.f, got, c.want)
		}
	}
}

// Facts that are added in any order, and again, make one ascending list. Their number is prime, so that every step meets all.
func TestAddFactSorts(t *testing.T) {
	want := someFacts()
	for step := 1; step < len(want); step++ {
		var l []impl.Fact
		for i := range 2 * len(want) {
			f := want[i*step%len(want)]
			there := impl.HasFact(l, f)
			size := len(l)
			l = impl.AddFact(l, f)
			if !impl.HasFact(l, f) || there != (len(l) == size) {
				t.Fatalf("step %d: %v is there: %v, then %d facts follow %d", step, f, there, len(l), size)
			}
		}
		if !equalFacts(l, want) {
			t.Fatalf("step %d: %v", step, l)
		}
	}
}

// AddFact gets a list with spare capacity, of lists with spare capacity.
func TestAddFactLeavesArguments(t *testing.T) {
	for _, f := range []impl.Fact{fact(0, 0), fact(0, 2), fact(0, 4), fact(0, 9)} {
		values := []int{2, 77, 4, 77, 6, 77}
		space := []impl.Fact{fact(0, values[0:1]...), fact(0, values[2:3]...), fact(0, values[4:5]...), fact(8, 8), fact(9, 9)}
		l := space[:3]
		valuesBefore, spaceBefore, fBefore := slices.Clone(values), deepCopy(space), deepCopy([]impl.Fact{f})
		got := impl.AddFact(l, f)
		want := deepCopy(got)
		if !slices.Equal(values, valuesBefore) || !reflect.DeepEqual(space, spaceBefore) {
			t.Errorf("adding %v changes its arguments to %v and %v", f, space, values)
		}
		for i := range values {
			values[i] = -5
		}
		for i := range space {
			space[i] = fact(-6, -6)
		}
		f.Values[0] = -7
		if !equalFacts(got, want) {
			t.Errorf("adding %v: the result changes with the arguments to %v", fBefore, got)
		}
		for i := range got {
			_ = append(got[i].Values, -8)
			got[i].Values[0] = -9
			want[i].Values[0] = -9
			if !equalFacts(got, want) {
				t.Errorf("adding %v: facts of the result share memory: %v", fBefore, got)
			}
		}
	}
}

func TestHasFact(t *testing.T) {
	all := someFacts()
	for i, f := range all {
		others := append(deepCopy(all[:i]), all[i+1:]...)
		if impl.HasFact(nil, f) || impl.HasFact(others, f) {
			t.Errorf("%v is in a list without it", f)
		}
		if !impl.HasFact(all, f) || !impl.HasFact(append(others, f), f) || !impl.HasFact([]impl.Fact{f}, deepCopy([]impl.Fact{f})[0]) {
			t.Errorf("%v is not in a list with it", f)
		}
	}
}

func TestFormatFact(t *testing.T) {
	for _, c := range []struct {
		f    impl.Fact
		want string
	}{
		{fact(0, 1, 2), "r0(1,2)"},
		{fact(0, 0), "r0(0)"},
		{fact(2, 9, 9, 9), "r2(9,9,9)"},
		{fact(1, 0, 5, 0), "r1(0,5,0)"},
		{fact(-1, 1), ""},
		{fact(3, 1), ""},
		{fact(math.MaxInt, 1), ""},
		{fact(math.MinInt, 1), ""},
		{fact(0), ""},
		{fact(0, 1, 2, 3, 4), ""},
		{fact(0, 10), ""},
		{fact(0, -1), ""},
		{fact(0, 1, 2, 10), ""},
		{fact(0, 1, math.MinInt), ""},
	} {
		if got := impl.FormatFact(c.f); got != c.want {
			t.Errorf("FormatFact(%v) = %q, want %q", c.f, got, c.want)
		}
	}
}

func TestParseFact(t *testing.T) {
	for _, text := range []string{"", "r", "r0", "r0(", "r0()", "()", "(1,2)", "0(1,2)", "rr0(1,2)", "r0(1,2", "r0(1,2))", "r0((1,2)", "r01,2)",
		"r0(1)", "r0(1,2,3)", "r0(1,2)r0(1,2)", "r0(,1)", "r0(1,)", "r0(1,2,)", "r0(,1,2)", "r0(1,,2)", "r0(1 ,2)", "r0(1, 2)", " r0(1,2)", "r0(1,2) ", "r0(1,2)\n",
		"r0(01,2)", "r0(1,02)", "r00(1,2)", "r-0(1,2)", "r+0(1,2)", "r0(-1,2)", "r0(+1,2)", "r0(-0,2)", "r0(10,2)", "r0(1,10)", "r1(10)", "r(1,2)",
		"r2(1)", "r3(1)", "r-1(1)", "r9(1,2)", "r10(1,2)", "q0(1,2)", "R0(1,2)", "r0[1,2]", "r0(1;2)", "r0(x0,1)", "r0(1,2\x00)", "r0(1,\xff)",
		"r0(1,18446744073709551618)", "r18446744073709551616(1,2)", "r0(\u0661,2)", "r1\x00(1)", "none"} {
		if f, ok := impl.ParseFact([]int{2, 1}, text); ok || f.Rel != 0 || len(f.Values) != 0 {
			t.Errorf("ParseFact(%q) = %v, %v, want no value", text, f, ok)
		}
	}
	for _, s := range [][]int{nil, {0}, {4}, {2, 0}, {2, 4}, {2, 1, 1, 1}} {
		if f, ok := impl.ParseFact(s, "r0(1,2)"); ok || f.Rel != 0 || len(f.Values) != 0 {
			t.Errorf("schema %v: %v, %v, want no value", s, f, ok)
		}
	}
}

func TestFactInverse(t *testing.T) {
	for text, f := range factTexts() {
		if got := impl.FormatFact(f); got != text {
			t.Fatalf("FormatFact(%v) = %q, want %q", f, got, text)
		}
		for _, s := range allSchemas() {
			got, ok := impl.ParseFact(s, text)
			if valid := f.Rel < len(s) && s[f.Rel] == len(f.Values); ok != valid {
				t.Fatalf("schema %v: ParseFact(%q) = %v, %v", s, text, got, ok)
			} else if valid && !equalFacts([]impl.Fact{got}, []impl.Fact{f}) || !valid && (got.Rel != 0 || len(got.Values) != 0) {
				t.Fatalf("schema %v: ParseFact(%q) = %v", s, text, got)
			}
		}
	}
}

// Of all strings that differ in a byte or two from a valid one, exactly the valid ones are read.
func TestParseFactAcceptsNothingElse(t *testing.T) {
	texts := factTexts()
	s := []int{1, 2, 3}
	check := func(text string) {
		f, valid := texts[text]
		valid = valid && len(f.Values) == s[f.Rel]
		if got, ok := impl.ParseFact(s, text); ok != valid || valid && !equalFacts([]impl.Fact{got}, []impl.Fact{f}) {
			t.Fatalf("ParseFact(%q) = %v, %v, want %v", text, got, ok, valid)
		}
	}
	for _, text := range []string{"r0(0)", "r0(7)", "r1(1,2)", "r2(0,9,5)"} {
		for at := range len(text) + 1 {
			for _, part := range stringsOver("r0129(),-+ x\x00\xff", 2) {
				for end := at; end <= min(at+2, len(text)); end++ {
					check(text[:at] + part + text[end:])
				}
			}
		}
	}
	for _, text := range stringsOver("r02(),", 6) {
		check(text)
	}
}

// checkSameLists gets different items, and the same ones built again.
func checkSameLists[T any](t *testing.T, all, again []T, same func(a, b []T) bool) {
	t.Helper()
	if !same(nil, nil) || !same(nil, []T{}) || !same(all, again) {
		t.Error("the same lists differ")
	}
	if same(all, again[1:]) || same(all[1:], again) || same(all, nil) || same(nil, make([]T, 1)) || same(make([]T, 1), nil) {
		t.Error("lists of different lengths are the same")
	}
	for i, a := range all {
		for k, b := range again {
			if got := same([]T{all[0], a}, []T{again[0], b}); got != (i == k) {
				t.Errorf("lists that end with %v and %v are the same: %v", a, b, got)
			}
			if got := same([]T{a, b}, []T{b, a}); got != (i == k) {
				t.Errorf("%v and %v are the same in the other order: %v", a, b, got)
			}
		}
	}
}

func TestSameFacts(t *testing.T) {
	checkSameLists(t, someFacts(), someFacts(), impl.SameFacts)
	if !impl.SameFacts([]impl.Fact{fact(1)}, []impl.Fact{{Rel: 1, Values: []int{}}}) {
		t.Error("a nil list and an empty one differ")
	}
	if impl.SameFacts([]impl.Fact{fact(0, 1, 2)}, []impl.Fact{fact(0, 2, 1)}) {
		t.Error("the order does not count")
	}
}
