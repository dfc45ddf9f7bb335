package num_test

import (
	"math"
	"math/big"
	"slices"
	"testing"

	"signalling/api"
	"signalling/num"
)

// edges are numbers around which roundings, signs and overflows change.
func edges() []int {
	l := []int{math.MinInt, math.MinInt + 1, math.MinInt + 2, math.MinInt / 2, math.MaxInt / 2, math.MaxInt - 1, math.MaxInt, 3037000499, -3037000500, 1 << 32, -1 << 32}
	for n := -12; n <= 12; n++ {
		l = append(l, n)
	}
	return l
}

// quotient is the exact quotient rounded down or up, and the error, computed with big numbers.
func quotient(a, b int, up bool) (int, api.Errno) {
	if b == 0 {
		return 0, api.ErrArg
	}
	exact := new(big.Rat).SetFrac(big.NewInt(int64(a)), big.NewInt(int64(b)))
	// Div rounds down, as the denominator of a Rat is positive.
	n := new(big.Int).Div(exact.Num(), exact.Denom())
	if up && !exact.IsInt() {
		n.Add(n, big.NewInt(1))
	}
	if !n.IsInt64() {
		return 0, api.ErrOverflow
	}
	return int(n.Int64()), api.OK
}

// P1.1
func TestFloor(t *testing.T) {
	for _, c := range []struct {
		a, b, n int
		e       api.Errno
	}{
		{-7, 2, -4, api.OK},
		{7, -2, -4, api.OK},
		{7, 2, 3, api.OK},
		{-7, -2, 3, api.OK},
		{6, -3, -2, api.OK},
		{0, -3, 0, api.OK},
		{-1, math.MaxInt, -1, api.OK},
		{1, math.MinInt, -1, api.OK},
		{math.MinInt, 1, math.MinInt, api.OK},
		{math.MinInt, math.MinInt, 1, api.OK},
		{math.MaxInt, -1, -math.MaxInt, api.OK},
		{1, 0, 0, api.ErrArg},
		{0, 0, 0, api.ErrArg},
		{math.MinInt, 0, 0, api.ErrArg},
		{math.MinInt, -1, 0, api.ErrOverflow},
	} {
		if n, e := num.Floor(c.a, c.b); n != c.n || e != c.e {
			t.Errorf("Floor(%d, %d) = %d, %d; want %d, %d", c.a, c.b, n, e, c.n, c.e)
		}
	}
}

// P1.1
func TestFloorExact(t *testing.T) {
	for _, a := range edges() {
		for _, b := range edges() {
			n, e := num.Floor(a, b)
			if wantN, wantE := quotient(a, b, false); n != wantN || e != wantE {
				t.Errorf("Floor(%d, %d) = %d, %d; want %d, %d", a, b, n, e, wantN, wantE)
			}
		}
	}
}

// P1.2
func TestCeil(t *testing.T) {
	for _, c := range []struct {
		a, b, n int
		e       api.Errno
	}{
		{-7, 2, -3, api.OK},
		{7, -2, -3, api.OK},
		{7, 2, 4, api.OK},
		{-7, -2, 4, api.OK},
		{6, -3, -2, api.OK},
		{0, -3, 0, api.OK},
		{1, math.MaxInt, 1, api.OK},
		{-1, math.MinInt, 1, api.OK},
		{-1, math.MaxInt, 0, api.OK},
		{math.MinInt, 1, math.MinInt, api.OK},
		{math.MaxInt, 1, math.MaxInt, api.OK},
		{1, 0, 0, api.ErrArg},
		{0, 0, 0, api.ErrArg},
		{math.MinInt, 0, 0, api.ErrArg},
		{math.MinInt, -1, 0, api.ErrOverflow},
	} {
		if n, e := num.Ceil(c.a, c.b); n != c.n || e != c.e {
			t.Errorf("Ceil(%d, %d) = %d, %d; want %d, %d", c.a, c.b, n, e, c.n, c.e)
		}
	}
}

// P1.2
func TestCeilExact(t *testing.T) {
	for _, a := range edges() {
		for _, b := range edges() {
			n, e := num.Ceil(a, b)
			if wantN, wantE := quotient(a, b, true); n != wantN || e != wantE {
				t.Errorf("Ceil(%d, %d) = %d, %d; want %d, %d", a, b, n, e, wantN, wantE)
			}
		}
	}
}

// P1.3
func TestRoot(t *testing.T) {
	for _, c := range []struct{ n, r int }{
		{math.MinInt, 0},
		{math.MinInt + 1, 0},
		{-4, 0},
		{-1, 0},
		{0, 0},
		{1, 1},
		{2, 1},
		{3, 1},
		{4, 2},
		{8, 2},
		{9, 3},
		{99, 9},
		{100, 10},
		{1<<62 - 1, 1<<31 - 1},
		{1 << 62, 1 << 31},
		{3037000499*3037000499 - 1, 3037000498},
		{3037000499 * 3037000499, 3037000499},
		{math.MaxInt, 3037000499},
	} {
		if r := num.Root(c.n); r != c.r {
			t.Errorf("Root(%d) = %d; want %d", c.n, r, c.r)
		}
	}
}

// P1.3
func TestRootCounted(t *testing.T) {
	r := 0
	for n := range 5000 {
		if (r+1)*(r+1) == n {
			r++
		}
		if got := num.Root(n); got != r {
			t.Fatalf("Root(%d) = %d; want %d", n, got, r)
		}
	}
}

// P1.4
func TestClamp(t *testing.T) {
	for _, c := range []struct{ n, lo, hi, want int }{
		{5, 1, 3, 3},
		{0, 1, 3, 1},
		{2, 1, 3, 2},
		{1, 1, 3, 1},
		{3, 1, 3, 3},
		{-9, -5, -2, -5},
		{0, -5, -2, -2},
		{7, 4, 4, 4},
		{0, 3, 1, 3},
		{2, 3, 1, 3},
		{9, 3, 1, 3},
		{math.MaxInt, math.MinInt, math.MaxInt, math.MaxInt},
		{math.MinInt, math.MinInt, math.MaxInt, math.MinInt},
		{0, math.MaxInt, math.MinInt, math.MaxInt},
	} {
		if n := num.Clamp(c.n, c.lo, c.hi); n != c.want {
			t.Errorf("Clamp(%d, %d, %d) = %d; want %d", c.n, c.lo, c.hi, n, c.want)
		}
	}
}

// P1.5
func TestSum(t *testing.T) {
	for _, c := range []struct {
		l    []int
		want int
	}{
		{nil, 0},
		{[]int{}, 0},
		{[]int{7}, 7},
		{[]int{3, -5}, -2},
		{[]int{math.MaxInt}, math.MaxInt},
		{[]int{math.MinInt}, math.MinInt},
		{[]int{math.MaxInt, 1, -2}, math.MaxInt - 1},
		{[]int{math.MaxInt, 1}, math.MaxInt},
		{[]int{math.MaxInt, 1, -1}, math.MaxInt},
		{[]int{math.MinInt, -1}, math.MinInt},
		{[]int{math.MinInt, -1, 2}, math.MinInt + 1},
		{[]int{math.MinInt, math.MinInt}, math.MinInt},
		{[]int{math.MinInt, math.MaxInt}, -1},
		{[]int{math.MaxInt, math.MaxInt, math.MaxInt}, math.MaxInt},
		{[]int{math.MaxInt, math.MaxInt, math.MaxInt, math.MinInt, math.MinInt}, math.MaxInt - 2},
		{[]int{math.MinInt, math.MinInt, math.MinInt, math.MinInt}, math.MinInt},
		{[]int{math.MinInt, math.MinInt, math.MaxInt, math.MaxInt, 2}, 0},
	} {
		before := slices.Clone(c.l)
		if n := num.Sum(c.l); n != c.want {
			t.Errorf("Sum(%d) = %d; want %d", c.l, n, c.want)
		}
		if !slices.Equal(before, c.l) {
			t.Errorf("Sum changed %d to %d", before, c.l)
		}
	}
}

// P1.5
func TestSumExact(t *testing.T) {
	for _, a := range edges() {
		for _, b := range edges() {
			for _, c := range edges() {
				l := []int{a, b, c, c}
				exact := new(big.Int)
				for _, n := range l {
					exact.Add(exact, big.NewInt(int64(n)))
				}
				want := math.MaxInt
				if exact.IsInt64() {
					want = int(exact.Int64())
				} else if exact.Sign() < 0 {
					want = math.MinInt
				}
				if n := num.Sum(l); n != want {
					t.Errorf("Sum(%d) = %d; want %d", l, n, want)
				}
			}
		}
	}
}

// P1.6
func TestQuotientAndRest(t *testing.T) {
	for _, a := range edges() {
		for _, b := range edges() {
			floor, e := num.Floor(a, b)
			ceil, e2 := num.Ceil(a, b)
			if e != e2 {
				t.Errorf("%d by %d: Floor has the error %d, Ceil %d", a, b, e, e2)
			}
			if e != api.OK {
				continue
			}
			// The product may wrap around, and so may the difference; the rest does not.
			rest := a - b*floor
			if b > 0 && (rest < 0 || rest >= b) || b < 0 && (rest > 0 || rest <= b) {
				t.Errorf("%d by %d: Floor %d leaves the rest %d", a, b, floor, rest)
			}
			if rest == 0 && ceil != floor || rest != 0 && ceil != floor+1 {
				t.Errorf("%d by %d: Floor is %d, Ceil %d, the rest %d", a, b, floor, ceil, rest)
			}
		}
	}
}

// P1.7
func TestNumRoots(t *testing.T) {
	l := slices.Concat(edges(), []int{2147483647, 2147483648, 3037000498, 3037000499})
	for n := range 2000 {
		l = append(l, n)
	}
	for shift := range 62 {
		l = append(l, 1<<shift, 1<<shift+1, math.MaxInt>>shift, math.MaxInt/3>>shift)
	}
	for _, root := range slices.Clone(l) {
		if root > 0 && root <= 3037000499 {
			l = append(l, root*root-1, root*root)
		}
	}
	for _, n := range l {
		if n < 0 {
			continue
		}
		r := num.Root(n)
		root, next, limit := big.NewInt(int64(r)), big.NewInt(int64(r)+1), big.NewInt(int64(n))
		if r < 0 || root.Mul(root, root).Cmp(limit) > 0 || next.Mul(next, next).Cmp(limit) <= 0 {
			t.Errorf("Root(%d) = %d", n, r)
		}
	}
}

// P1.8
func TestSumInAnyOrder(t *testing.T) {
	for _, l := range [][]int{
		{1, 2, 3, 4, 5},
		{math.MaxInt, math.MaxInt, math.MinInt, math.MinInt, 1},
		{math.MaxInt, 1, -2, math.MaxInt, -math.MaxInt},
		{math.MaxInt, math.MaxInt, math.MaxInt, math.MinInt, 0},
		{math.MinInt, math.MinInt, math.MinInt, math.MaxInt, -1},
	} {
		want := num.Sum(l)
		permute(l, 0, func(p []int) {
			if n := num.Sum(p); n != want {
				t.Errorf("Sum(%d) = %d, but in another order %d", p, n, want)
			}
		})
	}
}

// permute calls visit with each order of l from the index first on.
func permute(l []int, first int, visit func([]int)) {
	if first == len(l) {
		visit(l)
		return
	}
	for i := first; i < len(l); i++ {
		l[first], l[i] = l[i], l[first]
		permute(l, first+1, visit)
		l[first], l[i] = l[i], l[first]
	}
}
