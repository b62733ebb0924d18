package tests

import (
	"math"
	"slices"
	"testing"

	"loop.example/g01989/impl"
)

func TestFormatLog(t *testing.T) {
	for _, c := range []struct {
		log  []impl.Access
		want string
	}{
		{nil, "none"},
		{[]impl.Access{}, "none"},
		{[]impl.Access{access(0, 1), access(1)}, "m0(1) m1()"},
		{[]impl.Access{{}}, "m0()"},
		{[]impl.Access{access(4, 9, 0, 9)}, "m4(9,0,9)"},
		{[]impl.Access{access(1), access(0, 1), access(1)}, "m1() m0(1) m1()"},
		{[]impl.Access{access(5)}, ""},
		{[]impl.Access{access(-1), access(1)}, ""},
		{[]impl.Access{access(0, 1), access(5), access(1)}, ""},
		{[]impl.Access{access(0, 1), access(0, 10)}, ""},
		{[]impl.Access{access(0, -1), access(0, 1)}, ""},
		{[]impl.Access{access(0, 1, 2, 3, 4)}, ""},
		{[]impl.Access{access(math.MaxInt), access(math.MinInt)}, ""},
	} {
		if got := impl.FormatLog(c.log); got != c.want {
			t.Errorf("FormatLog(%v) = %q, want %q", c.log, got, c.want)
		}
	}
	if got := impl.FormatLog(slices.Repeat([]impl.Access{access(1)}, 1000)); len(got) != 4999 {
		t.Errorf("the format of a long log has %d bytes", len(got))
	}
}

func TestFormatLogLeavesArguments(t *testing.T) {
	numbers := []int{1, 77, 2, 3, 77}
	log := []impl.Access{access(0, numbers[0:1]...), access(2, numbers[2:4]...), access(7, 7)}
	if got := impl.FormatLog(log[:2]); got != "m0(1) m2(2,3)" || !slices.Equal(numbers, []int{1, 77, 2, 3, 77}) || log[2].Method != 7 {
		t.Errorf("%s, of %v", got, log)
	}
}
