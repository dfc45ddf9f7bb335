package idset_test

import (
	"math"
	"slices"
	"testing"

	"signalling/idset"
)

// lists returns all lists of up to three of the numbers -1, 0, 2 and 3 (empty, unordered and with repetitions among
// them), and some longer ones and ones at the bounds of int.
func lists() [][]int {
	all := [][]int{nil}
	for from, length := 0, 1; length <= 3; length++ {
		upto := len(all)
		for _, l := range all[from:upto] {
			for _, n := range []int{-1, 0, 2, 3} {
				all = append(all, append(slices.Clone(l), n))
			}
		}
		from = upto
	}
	return append(all,
		[]int{},
		[]int{5, 4, 3, 2, 1, 0, -1, -2, -3},
		[]int{7, 7, 7, 7, 3, 3, 3, 3, 7, 3},
		[]int{math.MaxInt, 0, math.MinInt, 0, math.MaxInt},
		[]int{math.MinInt, math.MaxInt},
	)
}

// occurs is the definition of an element, independent of the package.
func occurs(l []int, n int) bool {
	for _, m := range l {
		if m == n {
			return true
		}
	}
	return false
}

// wanted returns the set of the candidates for which in holds: the smallest one above the last, as long as there is one.
func wanted(candidates []int, in func(n int) bool) []int {
	var set []int
	for {
		found, next := false, 0
		for _, n := range candidates {
			above := len(set) == 0 || n > set[len(set)-1]
			if in(n) && above && (!found || n < next) {
				found, next = true, n
			}
		}
		if !found {
			return set
		}
		set = append(set, next)
	}
}

// P2.1
func TestMake(t *testing.T) {
	for _, c := range []struct{ l, set []int }{
		{nil, nil},
		{[]int{}, nil},
		{[]int{4}, []int{4}},
		{[]int{2, 1, 2}, []int{1, 2}},
		{[]int{1, 2, 3}, []int{1, 2, 3}},
		{[]int{3, 2, 1}, []int{1, 2, 3}},
		{[]int{0, 0, 0, 0}, []int{0}},
		{[]int{10, 9, -10, 100, -9}, []int{-10, -9, 9, 10, 100}},
		{[]int{math.MaxInt, 0, math.MinInt, math.MaxInt}, []int{math.MinInt, 0, math.MaxInt}},
	} {
		if set := idset.Make(c.l); !slices.Equal(set, c.set) {
			t.Errorf("Make(%v) = %v, want %v", c.l, set, c.set)
		}
	}
	for _, l := range lists() {
		want := wanted(l, func(int) bool { return true })
		if set := idset.Make(l); !slices.Equal(set, want) {
			t.Errorf("Make(%v) = %v, want %v", l, set, want)
		}
	}
}

// P2.1: also a long list, in which every number occurs thrice, from the greatest to the least.
func TestMakeLong(t *testing.T) {
	var l, want []int
	for n := range 1000 {
		l = append(l, 999-n, 999-n, 999-n)
		want = append(want, n)
	}
	if set := idset.Make(l); !slices.Equal(set, want) {
		t.Errorf("Make of %d numbers = %v", len(l), set)
	}
}

// P2.2
func TestHas(t *testing.T) {
	for _, c := range []struct {
		s   []int
		n   int
		has bool
	}{
		{nil, 0, false},
		{[]int{}, 0, false},
		{[]int{0}, 0, true},
		{[]int{1, 2, 3}, 1, true},
		{[]int{1, 2, 3}, 3, true},
		{[]int{1, 3, 5}, 4, false},
		{[]int{1, 3, 5}, 6, false},
		{[]int{1, 3, 5}, 0, false},
		{[]int{5, 1, 3}, 1, true},
		{[]int{5, 3, 1, 4}, 5, true},
		{[]int{5, 3, 1, 4}, 4, true},
		{[]int{2, 2, 1, 1}, 1, true},
		{[]int{math.MaxInt, math.MinInt}, math.MinInt, true},
		{[]int{math.MaxInt, math.MinInt}, math.MaxInt, true},
	} {
		if has := idset.Has(c.s, c.n); has != c.has {
			t.Errorf("Has(%v, %d) = %v", c.s, c.n, has)
		}
	}
	for _, s := range lists() {
		for n := -4; n <= 8; n++ {
			if has := idset.Has(s, n); has != occurs(s, n) {
				t.Errorf("Has(%v, %d) = %v", s, n, has)
			}
		}
	}
}

// P2.2
func TestWithin(t *testing.T) {
	for _, c := range []struct {
		a, b   []int
		within bool
	}{
		{nil, nil, true},
		{nil, []int{}, true},
		{nil, []int{2, 1}, true},
		{[]int{0}, nil, false},
		{[]int{1, 2}, []int{1, 2, 3}, true},
		{[]int{1, 2, 3}, []int{1, 2}, false},
		{[]int{1, 2, 3}, []int{3, 2, 1}, true},
		{[]int{1, 1, 1, 1}, []int{2, 1}, true},
		{[]int{3, 1, 3, 1}, []int{1, 3}, true},
		{[]int{0, 1}, []int{1, 2}, false},
		{[]int{4, 2}, []int{1, 3, 5}, false},
		{[]int{math.MinInt}, []int{math.MaxInt, math.MinInt}, true},
		{[]int{math.MinInt}, []int{math.MaxInt}, false},
	} {
		if within := idset.Within(c.a, c.b); within != c.within {
			t.Errorf("Within(%v, %v) = %v", c.a, c.b, within)
		}
	}
	for _, a := range lists() {
		for _, b := range lists() {
			want := true
			for _, n := range a {
				want = want && occurs(b, n)
			}
			if within := idset.Within(a, b); within != want {
				t.Errorf("Within(%v, %v) = %v", a, b, within)
			}
		}
	}
}

// P2.3
func TestOperations(t *testing.T) {
	for _, c := range []struct{ a, b, union, common, minus []int }{
		{nil, nil, nil, nil, nil},
		{[]int{}, nil, nil, nil, nil},
		{[]int{2, 1, 2}, nil, []int{1, 2}, nil, []int{1, 2}},
		{nil, []int{2, 1, 2}, []int{1, 2}, nil, nil},
		{[]int{3, 1}, []int{2, 3}, []int{1, 2, 3}, []int{3}, []int{1}},
		{[]int{1, 2}, []int{1, 2}, []int{1, 2}, []int{1, 2}, nil},
		{[]int{1, 2}, []int{3, 4}, []int{1, 2, 3, 4}, nil, []int{1, 2}},
		{[]int{3, 4}, []int{1, 2}, []int{1, 2, 3, 4}, nil, []int{3, 4}},
		{[]int{1, 3, 5}, []int{2, 4}, []int{1, 2, 3, 4, 5}, nil, []int{1, 3, 5}},
		{[]int{9, 9, 1, 1}, []int{1, 1, 0, 0}, []int{0, 1, 9}, []int{1}, []int{9}},
		{[]int{math.MaxInt, math.MinInt}, []int{math.MaxInt, -1}, []int{math.MinInt, -1, math.MaxInt}, []int{math.MaxInt}, []int{math.MinInt}},
	} {
		if l := idset.Union(c.a, c.b); !slices.Equal(l, c.union) {
			t.Errorf("Union(%v, %v) = %v, want %v", c.a, c.b, l, c.union)
		}
		if l := idset.Common(c.a, c.b); !slices.Equal(l, c.common) {
			t.Errorf("Common(%v, %v) = %v, want %v", c.a, c.b, l, c.common)
		}
		if l := idset.Minus(c.a, c.b); !slices.Equal(l, c.minus) {
			t.Errorf("Minus(%v, %v) = %v, want %v", c.a, c.b, l, c.minus)
		}
	}
}

// operations are the operations on two lists, each with its condition.
func operations() map[string]struct {
	of func(a, b []int) []int
	in func(inA, inB bool) bool
} {
	return map[string]struct {
		of func(a, b []int) []int
		in func(inA, inB bool) bool
	}{
		"Union":  {idset.Union, func(inA, inB bool) bool { return inA || inB }},
		"Common": {idset.Common, func(inA, inB bool) bool { return inA && inB }},
		"Minus":  {idset.Minus, func(inA, inB bool) bool { return inA && !inB }},
	}
}

// P2.3, P2.4
func TestMembers(t *testing.T) {
	for name, operation := range operations() {
		for _, a := range lists() {
			for _, b := range lists() {
				want := wanted(slices.Concat(a, b), func(n int) bool { return operation.in(occurs(a, n), occurs(b, n)) })
				if l := operation.of(a, b); !slices.Equal(l, want) {
					t.Errorf("%s(%v, %v) = %v, want %v", name, a, b, l, want)
				}
			}
		}
	}
}

// P2.4: order and repetitions have no effect.
func TestOrderAndRepetitions(t *testing.T) {
	for name, operation := range operations() {
		for _, a := range lists() {
			for _, b := range lists() {
				mixedA, mixedB := slices.Concat(a, a), slices.Concat(b, b)
				slices.Reverse(mixedA)
				slices.Reverse(mixedB)
				want := operation.of(a, b)
				if l := operation.of(mixedA, mixedB); !slices.Equal(l, want) {
					t.Errorf("%s(%v, %v) = %v, want %v", name, mixedA, mixedB, l, want)
				}
				if idset.Within(mixedA, mixedB) != idset.Within(a, b) {
					t.Errorf("Within(%v, %v) is not that of %v, %v", mixedA, mixedB, a, b)
				}
			}
		}
	}
}

// 0.4: what is returned shares no memory with the arguments, and these stay as they are.
func TestArguments(t *testing.T) {
	a, b := []int{1, 2, 3, 9, 9}, []int{3, 2, 2}
	for name, of := range map[string]func() []int{
		"Make of a set": func() []int { return idset.Make(a[:3]) },
		"Make of a":     func() []int { return idset.Make(a) },
		"Make of b":     func() []int { return idset.Make(b) },
		"Union":         func() []int { return idset.Union(a, b) },
		"Union left":    func() []int { return idset.Union(a[:3], nil) },
		"Union right":   func() []int { return idset.Union(nil, a[:3]) },
		"Common":        func() []int { return idset.Common(a[:3], a[:3]) },
		"Minus":         func() []int { return idset.Minus(a[:3], nil) },
		"Within":        func() []int { idset.Within(b, a); return nil },
		"Has":           func() []int { idset.Has(b, 2); return nil },
	} {
		l := of()
		l = l[:cap(l)]
		for i := range l {
			l[i] = -7
		}
		if !slices.Equal(a, []int{1, 2, 3, 9, 9}) || !slices.Equal(b, []int{3, 2, 2}) {
			t.Errorf("%s: the arguments became %v and %v", name, a, b)
			a, b = []int{1, 2, 3, 9, 9}, []int{3, 2, 2}
		}
	}
}
