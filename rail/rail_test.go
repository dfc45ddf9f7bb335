package rail_test

import (
	"math"
	"slices"
	"testing"

	"signalling/api"
	"signalling/rail"
)

// numbers are kinds, sides and positions, the numbers beside them, and numbers far off that share low bits with them.
func numbers() []int {
	l := []int{math.MinInt, math.MinInt + 1, -1 << 32, -256, 255, 256, 257, 258, 259, 1 << 32, 1<<32 + 1, 1<<32 + 2, 1<<32 + 3, math.MaxInt - 1, math.MaxInt}
	for n := -9; n <= 9; n++ {
		l = append(l, n)
	}
	return l
}

// kinds are the kinds of elements, each with the number of its sides as the chapter says it.
func kinds() map[int]int {
	return map[int]int{api.ElTrack: 2, api.ElPoint: 3, api.ElCross: 4}
}

// positions are those of points.
func positions() []int { return []int{api.PtNormal, api.PtReverse} }

// between tells whether the sides are these two, in one of both directions.
func between(in, out, a, b int) bool {
	return in == a && out == b || in == b && out == a
}

// possible is the chapter's definition of the passages: whether there is one in a position.
func possible(kind, in, out, pos int) bool {
	switch kind {
	case api.ElTrack:
		return between(in, out, 0, 1)
	case api.ElCross:
		return between(in, out, 0, 1) || between(in, out, 2, 3)
	case api.ElPoint:
		return pos == api.PtNormal && between(in, out, 0, 1) || pos == api.PtReverse && between(in, out, 0, 2)
	}
	return false
}

func checkOut(t *testing.T, kind, in, pos, want int, wantOk bool) {
	t.Helper()
	if out, ok := rail.Out(kind, in, pos); out != want || ok != wantOk {
		t.Errorf("Out(%d, %d, %d) = %d, %v; want %d, %v", kind, in, pos, out, ok, want, wantOk)
	}
}

func checkNeed(t *testing.T, kind, in, out, want int, wantOk bool) {
	t.Helper()
	if pos, ok := rail.Need(kind, in, out); pos != want || ok != wantOk {
		t.Errorf("Need(%d, %d, %d) = %d, %v; want %d, %v", kind, in, out, pos, ok, want, wantOk)
	}
}

func checkLegs(t *testing.T, kind, in int, want []int) {
	t.Helper()
	if l := rail.Legs(kind, in); !slices.Equal(l, want) {
		t.Errorf("Legs(%d, %d) = %d, want %d", kind, in, l, want)
	}
}

// P6.1
func TestSides(t *testing.T) {
	for _, kind := range numbers() {
		// Of a number that is no kind, the map has 0.
		if n := rail.Sides(kind); n != kinds()[kind] {
			t.Errorf("Sides(%d) = %d, want %d", kind, n, kinds()[kind])
		}
	}
}

// P6.2
func TestOut(t *testing.T) {
	for _, c := range []struct {
		kind, in, pos, out int
		ok                 bool
	}{
		{api.ElTrack, 0, 0, 1, true},
		{api.ElTrack, 1, 0, 0, true},
		{api.ElTrack, 0, api.PtNormal, 1, true},
		{api.ElTrack, 1, api.PtReverse, 0, true},
		{api.ElTrack, 0, -1, 1, true},
		{api.ElTrack, 1, 3, 0, true},
		{api.ElTrack, 0, math.MinInt, 1, true},
		{api.ElTrack, 2, 0, 0, false},
		{api.ElTrack, -1, 0, 0, false},
		{api.ElTrack, 3, api.PtNormal, 0, false},

		{api.ElPoint, 0, api.PtNormal, 1, true},
		{api.ElPoint, 0, api.PtReverse, 2, true},
		{api.ElPoint, 1, api.PtNormal, 0, true},
		{api.ElPoint, 2, api.PtReverse, 0, true},
		{api.ElPoint, 1, api.PtReverse, 0, false},
		{api.ElPoint, 2, api.PtNormal, 0, false},
		{api.ElPoint, 0, 0, 0, false},
		{api.ElPoint, 1, 0, 0, false},
		{api.ElPoint, 2, 0, 0, false},
		{api.ElPoint, 0, 3, 0, false},
		{api.ElPoint, 1, -1, 0, false},
		{api.ElPoint, 2, math.MaxInt, 0, false},
		{api.ElPoint, 3, api.PtNormal, 0, false},
		{api.ElPoint, -1, api.PtReverse, 0, false},

		{api.ElCross, 0, 0, 1, true},
		{api.ElCross, 1, 0, 0, true},
		{api.ElCross, 2, 0, 3, true},
		{api.ElCross, 3, 0, 2, true},
		{api.ElCross, 0, api.PtReverse, 1, true},
		{api.ElCross, 2, api.PtNormal, 3, true},
		{api.ElCross, 3, api.PtReverse, 2, true},
		{api.ElCross, 1, math.MaxInt, 0, true},
		{api.ElCross, 4, 0, 0, false},
		{api.ElCross, -1, 0, 0, false},

		{0, 0, 0, 0, false},
		{0, 0, api.PtNormal, 0, false},
		{4, 0, api.PtNormal, 0, false},
		{4, 2, 0, 0, false},
		{-1, 0, 0, 0, false},
		{math.MinInt, 0, api.PtReverse, 0, false},
		{math.MaxInt, 0, api.PtReverse, 0, false},
	} {
		checkOut(t, c.kind, c.in, c.pos, c.out, c.ok)
	}
}

// P6.2: of any numbers; the sides that the definition leads to are searched among all of them.
func TestOutOfAnyNumbers(t *testing.T) {
	for _, kind := range numbers() {
		for _, in := range numbers() {
			for _, pos := range numbers() {
				at := slices.IndexFunc(numbers(), func(out int) bool { return possible(kind, in, out, pos) })
				if at < 0 {
					checkOut(t, kind, in, pos, 0, false)
				} else {
					checkOut(t, kind, in, pos, numbers()[at], true)
				}
			}
		}
	}
}

// P6.2
func TestNeed(t *testing.T) {
	for _, c := range []struct {
		kind, in, out, pos int
		ok                 bool
	}{
		{api.ElTrack, 0, 1, 0, true},
		{api.ElTrack, 1, 0, 0, true},
		{api.ElTrack, 0, 0, 0, false},
		{api.ElTrack, 1, 1, 0, false},
		{api.ElTrack, 0, 2, 0, false},
		{api.ElTrack, 2, 0, 0, false},
		{api.ElTrack, 2, 3, 0, false},
		{api.ElTrack, 0, -1, 0, false},

		{api.ElPoint, 0, 1, api.PtNormal, true},
		{api.ElPoint, 1, 0, api.PtNormal, true},
		{api.ElPoint, 0, 2, api.PtReverse, true},
		{api.ElPoint, 2, 0, api.PtReverse, true},
		{api.ElPoint, 1, 2, 0, false},
		{api.ElPoint, 2, 1, 0, false},
		{api.ElPoint, 0, 0, 0, false},
		{api.ElPoint, 2, 2, 0, false},
		{api.ElPoint, 0, 3, 0, false},
		{api.ElPoint, 3, 0, 0, false},
		{api.ElPoint, -1, 0, 0, false},

		{api.ElCross, 0, 1, 0, true},
		{api.ElCross, 1, 0, 0, true},
		{api.ElCross, 2, 3, 0, true},
		{api.ElCross, 3, 2, 0, true},
		{api.ElCross, 0, 2, 0, false},
		{api.ElCross, 2, 0, 0, false},
		{api.ElCross, 0, 3, 0, false},
		{api.ElCross, 1, 2, 0, false},
		{api.ElCross, 3, 1, 0, false},
		{api.ElCross, 2, 2, 0, false},
		{api.ElCross, 4, 5, 0, false},

		{0, 0, 1, 0, false},
		{0, 0, 0, 0, false},
		{4, 0, 1, 0, false},
		{4, 2, 3, 0, false},
		{-1, 1, 0, 0, false},
		{math.MaxInt, 0, 1, 0, false},
		{math.MinInt, 0, 1, 0, false},
	} {
		checkNeed(t, c.kind, c.in, c.out, c.pos, c.ok)
	}
}

// P6.2: of any numbers; points are the only elements of which a position is needed.
func TestNeedOfAnyNumbers(t *testing.T) {
	for _, kind := range numbers() {
		for _, in := range numbers() {
			for _, out := range numbers() {
				normal, reverse := possible(kind, in, out, api.PtNormal), possible(kind, in, out, api.PtReverse)
				switch {
				case normal && reverse:
					checkNeed(t, kind, in, out, 0, true)
				case normal:
					checkNeed(t, kind, in, out, api.PtNormal, true)
				case reverse:
					checkNeed(t, kind, in, out, api.PtReverse, true)
				default:
					checkNeed(t, kind, in, out, 0, false)
				}
			}
		}
	}
}

// P6.3
func TestLegs(t *testing.T) {
	for _, c := range []struct {
		kind, in int
		legs     []int
	}{
		{api.ElTrack, 0, []int{1}},
		{api.ElTrack, 1, []int{0}},
		{api.ElTrack, 2, nil},
		{api.ElTrack, -1, nil},
		{api.ElPoint, 0, []int{1, 2}},
		{api.ElPoint, 1, []int{0}},
		{api.ElPoint, 2, []int{0}},
		{api.ElPoint, 3, nil},
		{api.ElPoint, -1, nil},
		{api.ElCross, 0, []int{1}},
		{api.ElCross, 1, []int{0}},
		{api.ElCross, 2, []int{3}},
		{api.ElCross, 3, []int{2}},
		{api.ElCross, 4, nil},
		{api.ElCross, -1, nil},
		{0, 0, nil},
		{4, 0, nil},
		{-1, 1, nil},
		{api.ElPoint, math.MaxInt, nil},
		{api.ElPoint, math.MinInt, nil},
		{math.MaxInt, 0, nil},
		{math.MinInt, 0, nil},
	} {
		checkLegs(t, c.kind, c.in, c.legs)
	}
}

// P6.3: of any numbers; a leg is possible in one of the positions.
func TestLegsOfAnyNumbers(t *testing.T) {
	for _, kind := range numbers() {
		for _, in := range numbers() {
			var want []int
			for _, out := range numbers() {
				if possible(kind, in, out, api.PtNormal) || possible(kind, in, out, api.PtReverse) {
					want = append(want, out)
				}
			}
			slices.Sort(want)
			checkLegs(t, kind, in, want)
		}
	}
}

// P6.3: true for the side 0 of points only.
func TestFacing(t *testing.T) {
	for _, kind := range numbers() {
		for _, in := range numbers() {
			if facing := rail.Facing(kind, in); facing != (kind == api.ElPoint && in == 0) {
				t.Errorf("Facing(%d, %d) = %v", kind, in, facing)
			}
		}
	}
}

// P6.4: also by Out: a train that turns back leaves where it entered.
func TestPassagesAreSymmetric(t *testing.T) {
	for _, kind := range numbers() {
		for _, in := range numbers() {
			for _, out := range numbers() {
				pos, ok := rail.Need(kind, in, out)
				checkNeed(t, kind, out, in, pos, ok)
			}
			for _, pos := range numbers() {
				if out, ok := rail.Out(kind, in, pos); ok {
					checkOut(t, kind, out, pos, in, true)
				}
			}
		}
	}
}

// P6.5: two different sides never lead to the same side.
func TestSidesLeadToDifferentSides(t *testing.T) {
	for kind, sides := range kinds() {
		for _, pos := range numbers() {
			from := map[int]int{}
			for in := range sides {
				out, ok := rail.Out(kind, in, pos)
				if other, found := from[out]; ok && found {
					t.Errorf("kind %d, position %d: the sides %d and %d lead to %d", kind, pos, other, in, out)
				}
				if ok {
					from[out] = in
				}
			}
		}
	}
}

// P6.5: a passage is possible in a position exactly if it needs this position, or none.
func TestPositions(t *testing.T) {
	found := 0
	for _, kind := range numbers() {
		for _, in := range numbers() {
			for _, out := range numbers() {
				need, ok := rail.Need(kind, in, out)
				for _, pos := range numbers() {
					want := ok && (need == 0 || need == pos)
					to, leads := rail.Out(kind, in, pos)
					if (leads && to == out) != want {
						t.Errorf("kind %d from %d to %d needs %d, %v; in the position %d it leads to %d, %v", kind, in, out, need, ok, pos, to, leads)
					}
				}
				if ok {
					found++
				}
			}
		}
	}
	if found != 2+4+4 {
		t.Errorf("there are %d passages", found)
	}
}

// P6.6
func TestLegsAndNeed(t *testing.T) {
	for _, kind := range numbers() {
		for _, in := range numbers() {
			legs := rail.Legs(kind, in)
			for _, out := range numbers() {
				if _, ok := rail.Need(kind, in, out); ok != slices.Contains(legs, out) {
					t.Errorf("Need(%d, %d, %d) returns %v, but the legs are %d", kind, in, out, ok, legs)
				}
			}
			want := 0
			switch {
			case rail.Facing(kind, in):
				want = 2
			case 0 <= in && in < rail.Sides(kind):
				want = 1
			}
			if len(legs) != want {
				t.Errorf("Legs(%d, %d) = %d, want %d of them", kind, in, legs, want)
			}
		}
	}
}

// P6.2, P6.3, P6.6: a train leaves by a leg, and where the way divides, each position leads to another one.
func TestPositionsAndLegs(t *testing.T) {
	for kind, sides := range kinds() {
		for in := range sides {
			var reached []int
			for _, pos := range positions() {
				if out, ok := rail.Out(kind, in, pos); ok && !slices.Contains(reached, out) {
					reached = append(reached, out)
				}
			}
			slices.Sort(reached)
			checkLegs(t, kind, in, reached)
		}
	}
}

// 0.4: legs are new memory: they can be changed and continued, and later ones are as before.
func TestLegsAreNewMemory(t *testing.T) {
	for kind, sides := range kinds() {
		for in := range sides {
			want := slices.Clone(rail.Legs(kind, in))
			legs := rail.Legs(kind, in)
			legs = legs[:cap(legs)]
			for i := range legs {
				legs[i] = -7
			}
			checkLegs(t, kind, in, want)
		}
	}
}
