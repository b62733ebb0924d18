package tests

import (
	"testing"

	"loop.example/g01989/impl"
)

func TestCountOrders(t *testing.T) {
	s, l := []int{2, 1}, orderCalls()
	free := method(1, nil, 0, 0, 1)
	for why, c := range map[string]struct {
		l    []impl.Method
		q    impl.Query
		want int
	}{
		"two methods for an atom":   {l, query([]int{10}, atom(0, 1, 10), atom(1, 10)), 3},
		"only one":                  {l, query(nil, atom(1, 10)), 1},
		"all orders of the atoms":   {l, query(nil, atom(1, 10), atom(1, 11), atom(1, 12)), 6},
		"equal atoms and methods":   {[]impl.Method{free, free}, query(nil, atom(1, 10), atom(1, 10)), 8},
		"as many as there can be":   {[]impl.Method{free, free, free, free, free}, query(nil, atom(1, 1), atom(1, 2), atom(1, 3), atom(1, 4)), 15000},
		"a chain":                   {l[:2], query(nil, atom(0, 11, 12), atom(0, 10, 11), atom(1, 10)), 1},
		"atoms in a circle":         {l, query(nil, atom(0, 10, 11), atom(0, 11, 10)), 0},
		"a circle that is entered":  {l[:2], query(nil, atom(0, 10, 11), atom(0, 11, 10), atom(1, 10)), 1},
		"one atom without a method": {l[1:2], query(nil, atom(1, 10), atom(0, 1, 2)), 0},
		"no methods":                {nil, query(nil, atom(1, 10)), 0},
	} {
		if got := impl.CountOrders(s, c.l, c.q); got != c.want {
			t.Errorf("%s: CountOrders(%v, %v) = %d, want %d", why, c.l, c.q, got, c.want)
		}
	}
	for why, c := range invalidQuestions() {
		if got := impl.CountOrders(c.s, c.l, c.q); got != 0 {
			t.Errorf("%s: CountOrders(%v, %v, %v) = %d", why, c.s, c.l, c.q, got)
		}
	}
}

func TestCountOrdersByTrial(t *testing.T) {
	for _, l := range orderMethods() {
		for _, q := range orderQueries() {
			if got, want := impl.CountOrders([]int{2, 1}, l, q), len(ordersByTrial(l, q)); got != want {
				t.Fatalf("CountOrders(%v, %v) = %d, want %d", l, q, got, want)
			}
		}
	}
}
