package body_test

import (
	"fmt"
	"math"
	"math/rand"
	"reflect"
	"slices"
	"testing"

	"signalling/api"
	"signalling/body"
	"signalling/layout"
)

func end(el, side int) api.End { return api.End{El: el, Side: side} }

func joint(el, side, otherEl, otherSide int) api.Joint {
	return api.Joint{A: end(el, side), B: end(otherEl, otherSide)}
}

func step(el, in, out int) api.Step { return api.Step{El: el, In: in, Out: out} }

// train is a body over these steps, from the rear to the front.
func train(head, length int, steps ...api.Step) api.Body {
	return api.Body{Steps: steps, Head: head, Length: length}
}

// line is the line of DOC.md.
func line() api.Layout {
	return api.Layout{
		Name:     "line",
		Sections: []string{"a", "b", "c"},
		Elements: []api.Element{
			{Name: "a", Kind: api.ElTrack, Length: 20000, Speed: 3000, Section: 0},
			{Name: "b", Kind: api.ElTrack, Length: 20000, Speed: 3000, Section: 1},
			{Name: "c", Kind: api.ElTrack, Length: 20000, Speed: 3000, Section: 2},
		},
		Joints:  []api.Joint{joint(0, 1, 1, 0), joint(1, 1, 2, 0)},
		Signals: []api.Signal{{Name: "s1", At: end(0, 1)}, {Name: "s2", At: end(1, 1)}},
	}
}

// The elements of the yard.
const (
	west  = iota // a track at the stem of the points p
	p            // points
	north        // a track between the normal leg of p and the crossing
	south        // a track between the reverse legs of p and q
	q            // points, whose normal leg is joined to nothing
	east         // a track at the stem of q
	k            // a crossing, to whose second track bow leads from the first one
	bow          // a track between the sides 1 and 2 of the crossing
	back         // a track behind the second track of the crossing
	count        // how many there are
)

// yard has all kinds of elements. From west, p leads over south and q to east, or over north, k, bow and k again to
// back. Two sections have two elements each, which are not side by side.
func yard() api.Layout {
	return api.Layout{
		Name:     "yard",
		Sections: []string{"t", "u", "v", "w", "x", "y", "z"},
		Elements: []api.Element{
			{Name: "west", Kind: api.ElTrack, Length: 1000, Grade: 3, Speed: 3000, Section: 4},
			{Name: "p", Kind: api.ElPoint, Length: 600, Speed: 2000, Slow: 1000, Section: 2},
			{Name: "north", Kind: api.ElTrack, Length: 900, Speed: 2000, Section: 5},
			{Name: "south", Kind: api.ElTrack, Length: 800, Grade: -50, Speed: 2000, Section: 0},
			{Name: "q", Kind: api.ElPoint, Length: 505, Speed: 2000, Slow: 100, Section: 2},
			{Name: "east", Kind: api.ElTrack, Length: 5000, Speed: 10000, Section: 1},
			{Name: "k", Kind: api.ElCross, Length: 700, Speed: 1500, Section: 3},
			{Name: "bow", Kind: api.ElTrack, Length: 1100, Speed: 1500, Section: 6},
			{Name: "back", Kind: api.ElTrack, Length: 500, Speed: 100, Section: 4},
		},
		Joints: []api.Joint{
			joint(p, 0, west, 1), joint(p, 1, north, 0), joint(south, 0, p, 2), joint(south, 1, q, 2),
			joint(q, 0, east, 0), joint(north, 1, k, 0), joint(k, 1, bow, 0),
			joint(k, 2, bow, 1), joint(k, 3, back, 0),
		},
		Signals: []api.Signal{{Name: "s", At: end(west, 1)}},
		Balises: []api.Balise{{Id: 7, El: east, Offset: 500}},
	}
}

// far has the longest tracks of all, each joined to the next one; the last one is joined to nothing.
func far() api.Layout {
	l := api.Layout{Name: "far", Sections: []string{"x"}}
	for i := range 3 {
		l.Elements = append(l.Elements, api.Element{Name: fmt.Sprintf("f%d", i), Kind: api.ElTrack, Length: api.MaxLength, Speed: 100})
	}
	l.Joints = []api.Joint{joint(0, 1, 1, 0), joint(2, 0, 1, 1)}
	return l
}

// ring has n tracks of the length 1000, joined to a circle.
func ring(n int) api.Layout {
	l := api.Layout{Name: fmt.Sprintf("ring%d", n), Sections: []string{"x", "y"}}
	for i := range n {
		l.Elements = append(l.Elements, api.Element{Name: fmt.Sprintf("e%d", i), Kind: api.ElTrack, Length: 1000, Speed: 2000, Section: i % 2})
		l.Joints = append(l.Joints, joint(i, 1, (i+1)%n, 0))
	}
	return l
}

// round are n steps around a ring of that many tracks, from one of them on.
func round(from, n, tracks int) []api.Step {
	var way []api.Step
	for i := range n {
		way = append(way, step((from+i)%tracks, 0, 1))
	}
	return way
}

// lie are positions of the points of the yard.
func lie(atP, atQ int) []int {
	positions := make([]int, count)
	positions[p], positions[q] = atP, atQ
	return positions
}

// randomLayout is a valid layout of a few elements of all kinds, most of whose ends are joined at random.
func randomLayout(r *rand.Rand) api.Layout {
	l := api.Layout{Name: "random"}
	sections := 1 + r.Intn(4)
	var ends []api.End
	for i := range sections + r.Intn(9) {
		e := api.Element{Name: fmt.Sprintf("e%d", i), Kind: 1 + r.Intn(3), Length: api.MinLength + r.Intn(500), Speed: 100 + r.Intn(5000), Section: i}
		if i < sections {
			l.Sections = append(l.Sections, fmt.Sprintf("x%d", i))
		} else {
			e.Section = r.Intn(sections)
		}
		if e.Kind == api.ElPoint {
			e.Slow = 100
		}
		l.Elements = append(l.Elements, e)
		for side := range e.Kind + 1 {
			ends = append(ends, end(i, side))
		}
	}
	r.Shuffle(len(ends), func(i, j int) { ends[i], ends[j] = ends[j], ends[i] })
	for free := r.Intn(4); len(ends) >= 2+free; ends = ends[2:] {
		l.Joints = append(l.Joints, api.Joint{A: ends[0], B: ends[1]})
	}
	return l
}

// layouts are those written out here and random ones, all of them valid.
func layouts(t *testing.T, r *rand.Rand, random int) []api.Layout {
	t.Helper()
	all := []api.Layout{line(), yard(), ring(2), ring(3), ring(5), ring(api.MaxElements)}
	for range random {
		all = append(all, randomLayout(r))
	}
	for _, l := range append(all, far()) {
		if e := layout.Check(l); e != api.OK {
			t.Fatalf("%+v is not valid: %d", l, e)
		}
	}
	return all
}

// randomBody is one that covers a random way from any end that exists.
func randomBody(r *rand.Rand, l api.Layout) api.Body {
	el := r.Intn(len(l.Elements))
	at, ok := end(el, r.Intn(l.Elements[el].Kind+1)), true
	var b api.Body
	for n := 1 + r.Intn(6); ok && len(b.Steps) < n && !visits(b.Steps, at.El); {
		out, passes := outOf(l.Elements[at.El].Kind, at.Side, 1+r.Intn(2))
		if !passes {
			out = 0 // from a leg of points the stem is reached, in the other position
		}
		b.Steps = append(b.Steps, step(at.El, at.Side, out))
		at, ok = joinedTo(l, end(at.El, out))
	}
	first, whole := lengthOf(l, b.Steps[0]), 0
	for _, s := range b.Steps {
		whole += lengthOf(l, s)
	}
	b.Head = 1 + r.Intn(lengthOf(l, b.Steps[len(b.Steps)-1]))
	stretch := whole - lengthOf(l, b.Steps[len(b.Steps)-1]) + b.Head
	b.Length = max(stretch-r.Intn(first), 1)
	return b
}

// disturb changes one thing of a body at random; what it becomes often is none.
func disturb(r *rand.Rand, l api.Layout, b api.Body) api.Body {
	i := r.Intn(len(b.Steps))
	b.Steps = slices.Clone(b.Steps)
	switch r.Intn(9) {
	case 0:
		b.Steps[i].El = r.Intn(14) - 1
	case 1:
		b.Steps[i].In, b.Steps[i].Out = b.Steps[i].Out, b.Steps[i].In
	case 2:
		b.Steps[i].Out = r.Intn(5) - 1
	case 3:
		b.Steps = slices.Delete(b.Steps, i, i+1)
	case 4:
		b.Steps = slices.Insert(b.Steps, i, b.Steps[0])
	case 5:
		b.Head += r.Intn(1001) - 500
	case 6:
		b.Head = r.Intn(3) * lengthOf(l, b.Steps[i])
	case 7:
		b.Length += r.Intn(1001) - 500
	case 8:
		b.Length = r.Intn(3)
	}
	return b
}

// randomPositions are some for the elements of a layout, often not for all of them.
func randomPositions(r *rand.Rand, l api.Layout) []int {
	var positions []int
	for range r.Intn(2*len(l.Elements) + 1) {
		positions = append(positions, []int{1, 2, 1, 2, 1, 2, 0, 3}[r.Intn(8)])
	}
	return positions
}

// The following say what the chapters define, without the packages.

func exists(l api.Layout, el int) bool { return el >= 0 && el < len(l.Elements) }

func lengthOf(l api.Layout, s api.Step) int {
	if !exists(l, s.El) {
		return 0
	}
	return l.Elements[s.El].Length
}

func visits(way []api.Step, el int) bool {
	return slices.ContainsFunc(way, func(s api.Step) bool { return s.El == el })
}

func joinedTo(l api.Layout, e api.End) (api.End, bool) {
	for _, j := range l.Joints {
		if j.A == e {
			return j.B, true
		}
		if j.B == e {
			return j.A, true
		}
	}
	return api.End{}, false
}

// outOf is where a train leaves that enters an element of a kind, in a position.
func outOf(kind, in, pos int) (int, bool) {
	switch {
	case kind == api.ElPoint && in == 0 && (pos == 1 || pos == 2):
		return pos, true
	case kind == api.ElPoint && in == pos && (pos == 1 || pos == 2):
		return 0, true
	case kind == api.ElTrack && in >= 0 && in < 2, kind == api.ElCross && in >= 0 && in < 4:
		return in ^ 1, true
	}
	return 0, false
}

func isPossible(l api.Layout, s api.Step) bool {
	for pos := range 3 {
		if !exists(l, s.El) {
			return false
		}
		if out, ok := outOf(l.Elements[s.El].Kind, s.In, pos); ok && out == s.Out {
			return true
		}
	}
	return false
}

// isWay needs no limit of the number of steps, since in a valid layout a way that is longer has an element twice.
func isWay(l api.Layout, way []api.Step) bool {
	for i, s := range way {
		if !isPossible(l, s) || visits(way[:i], s.El) {
			return false
		}
		if i > 0 {
			at, ok := joinedTo(l, end(way[i-1].El, way[i-1].Out))
			if !ok || at != end(s.El, s.In) {
				return false
			}
		}
	}
	return len(way) > 0
}

// errorOf is what is wrong with a body, and the offset of its rear end in the first step if there is none.
func errorOf(l api.Layout, b api.Body) (api.Errno, int) {
	if !isWay(l, b.Steps) || b.Length < 1 || b.Length > 1000000 {
		return api.ErrArg, 0
	}
	n := len(b.Steps) - 1
	if b.Head < 1 || b.Head > lengthOf(l, b.Steps[n]) {
		return api.ErrArg, 0
	}
	stretch := b.Head
	for _, s := range b.Steps[:n] {
		stretch += lengthOf(l, s)
	}
	if stretch < b.Length || n > 0 && stretch-lengthOf(l, b.Steps[0]) >= b.Length {
		return api.ErrConflict, 0
	}
	return api.OK, stretch - b.Length
}

// crawl moves a train centimeter by centimeter.
func crawl(l api.Layout, positions []int, b api.Body, d int) (api.Body, int, bool) {
	e, offset := errorOf(l, b)
	if e != api.OK {
		return b, 0, false
	}
	steps, head, moved := b.Steps, b.Head, 0
	drop := func() {
		for offset >= lengthOf(l, steps[0]) {
			offset -= lengthOf(l, steps[0])
			steps = steps[1:]
		}
	}
	for ; moved < d; moved++ {
		front := steps[len(steps)-1]
		if head == lengthOf(l, front) {
			drop()
			at, ok := joinedTo(l, end(front.El, front.Out))
			if !ok || visits(steps, at.El) {
				return train(head, b.Length, steps...), moved, true
			}
			out, ok := outOf(l.Elements[at.El].Kind, at.Side, append(slices.Clone(positions), make([]int, 32)...)[at.El])
			if !ok {
				return train(head, b.Length, steps...), moved, true
			}
			steps, head = append(slices.Clone(steps), step(at.El, at.Side, out)), 0
		}
		head, offset = head+1, offset+1
	}
	drop()
	return train(head, b.Length, steps...), moved, false
}

func same(a, b api.Body) bool {
	return a.Head == b.Head && a.Length == b.Length && slices.Equal(a.Steps, b.Steps)
}

func checkCheck(t *testing.T, l api.Layout, b api.Body, want api.Errno) {
	t.Helper()
	if e := body.Check(l, b); e != want {
		t.Errorf("%s: Check(%v) = %d, want %d", l.Name, b, e, want)
	}
}

func checkRear(t *testing.T, l api.Layout, b api.Body, el, offset int) {
	t.Helper()
	if e, o := body.Rear(l, b); e != el || o != offset {
		t.Errorf("%s: Rear(%v) = %d, %d; want %d, %d", l.Name, b, e, o, el, offset)
	}
}

func checkSections(t *testing.T, l api.Layout, b api.Body, want ...int) {
	t.Helper()
	if s := body.Sections(l, b); !slices.Equal(s, want) {
		t.Errorf("%s: Sections(%v) = %v, want %v", l.Name, b, s, want)
	}
}

func checkCovers(t *testing.T, b api.Body, el int, want api.Step, wantOk bool) {
	t.Helper()
	if s, ok := body.Covers(b, el); s != want || ok != wantOk {
		t.Errorf("Covers(%v, %d) = %v, %v; want %v, %v", b, el, s, ok, want, wantOk)
	}
}

func checkMove(t *testing.T, l api.Layout, positions []int, b api.Body, d int, want api.Body, distance int, ended bool) {
	t.Helper()
	after, n, stopped := body.Move(l, positions, b, d)
	if !same(after, want) || n != distance || stopped != ended {
		t.Errorf("%s: Move(%v, %v, %d) = %v, %d, %v; want %v, %d, %v", l.Name, positions, b, d, after, n, stopped, want, distance, ended)
	}
}

// farNumbers share low bits with small ones.
func farNumbers() []int {
	return []int{math.MinInt, math.MinInt + 1, -1 << 32, -256, -3, -2, -1, 256, 257, 1 << 32, 1<<32 + 1, 1<<32 + 2, math.MaxInt}
}

// P11.1 to P11.4: the examples of the chapter.
func TestExamples(t *testing.T) {
	a, b, c := step(0, 0, 1), step(1, 0, 1), step(2, 0, 1)
	first := train(15000, 5000, a)
	checkRear(t, line(), first, 0, 10000)
	checkMove(t, line(), nil, first, 7000, train(2000, 5000, a, b), 7000, false)
	checkRear(t, line(), train(2000, 5000, a, b), 0, 17000)
	checkMove(t, line(), nil, train(2000, 5000, a, b), 3000, train(5000, 5000, b), 3000, false)
	checkMove(t, line(), nil, train(5000, 5000, b), 60000, train(20000, 5000, c), 35000, true)
	checkCheck(t, line(), train(5000, 5000, a, b), api.ErrConflict)
}

// A covering is a body and the offset of its rear end in the first step.
type covering struct {
	b      api.Body
	offset int
}

// coverings are some in the yard.
func coverings() []covering {
	return []covering{
		{train(1, 1, step(west, 0, 1)), 0},
		{train(1000, 1000, step(west, 1, 0)), 0},
		{train(505, 505, step(q, 2, 0)), 0},
		{train(700, 700, step(k, 2, 3)), 0},
		{train(200, 1200, step(west, 0, 1), step(p, 0, 2)), 0},
		{train(5000, 7905, step(west, 0, 1), step(p, 0, 2), step(south, 0, 1), step(q, 2, 0), step(east, 0, 1)), 0},
		{train(2, 1, step(east, 1, 0)), 1},
		{train(600, 1599, step(west, 0, 1), step(p, 0, 1)), 1},
		{train(300, 200, step(north, 1, 0)), 100},
		{train(900, 1400, step(k, 1, 0), step(north, 1, 0)), 200},
		// The rear end is at the end of the track, or just before the end of the first step.
		{train(5000, 1, step(east, 0, 1)), 4999},
		{train(1, 2, step(west, 0, 1), step(p, 0, 1)), 999},
		{train(600, 601, step(west, 0, 1), step(p, 0, 2)), 999},
		{train(1, 602, step(west, 0, 1), step(p, 0, 1), step(north, 0, 1)), 999},
		{train(800, 801, step(q, 0, 2), step(south, 1, 0)), 504},
		{train(1, 1402, step(q, 0, 2), step(south, 1, 0), step(p, 2, 0), step(west, 1, 0)), 504},
	}
}

// faulty are bodies that are not accepted in the yard.
func faulty() map[string]api.Body {
	w, n := step(west, 0, 1), step(p, 0, 1)
	return map[string]api.Body{
		"no steps":                            train(1, 1),
		"an empty list of steps":              {Steps: []api.Step{}, Head: 1, Length: 1},
		"nothing at all":                      {},
		"an element behind the last one":      train(1, 1, step(count, 0, 1)),
		"an element before the first one":     train(1, 1, step(-1, 0, 1)),
		"an element far off":                  train(1, 1, step(1<<32, 0, 1)),
		"an element that does not exist":      train(1, 2, w, step(count, 0, 1)),
		"a passage that is not possible":      train(1, 1, step(p, 1, 2)),
		"sides that do not exist":             train(1, 1, step(west, 2, 3)),
		"an element is left out":              train(1, 602, w, step(north, 0, 1)),
		"the elements are exchanged":          train(1, 2, n, w),
		"the second step is turned":           train(1, 2, w, step(p, 1, 0)),
		"into the other track":                train(1, 2, step(north, 0, 1), step(k, 2, 3)),
		"an element twice":                    train(1, 1802, step(k, 0, 1), step(bow, 0, 1), step(k, 2, 3)),
		"a step twice":                        train(1, 1001, w, w),
		"more steps than ways have":           {Steps: slices.Repeat([]api.Step{w}, api.MaxSteps+1), Head: 1, Length: 64001},
		"no length":                           train(300, 0, w),
		"no length, of two steps":             train(300, 0, w, n),
		"a negative length":                   train(300, -1, w),
		"the least length":                    train(300, math.MinInt, w),
		"a length beyond the limit":           train(300, api.MaxLength+1, w),
		"a length far beyond it":              train(300, math.MaxInt, w),
		"a length by more than 32 bits":       train(300, 1<<32+200, w),
		"a head at the beginning":             train(0, 200, w),
		"a head at the beginning of a second": train(0, 1000, w, n),
		"a negative head":                     train(-1, 200, w),
		"a negative head in a second step":    train(-1, 900, w, n),
		"the least head":                      train(math.MinInt, 200, w),
		"a head beyond the element":           train(1001, 200, w),
		"a head beyond the second element":    train(601, 700, w, n),
		"a head far beyond":                   train(math.MaxInt, 200, w),
		"a head beyond by 32 bits":            train(1<<32+300, 200, w),
		// These are also too long for the stretch, or have a step that is left.
		"no way, and too long":         train(1, 5000, w, step(north, 0, 1)),
		"a head of 0, and too long":    train(0, 5000, w),
		"too long by both":             train(1, api.MaxLength+1, w),
		"a head too far, and too long": train(601, 5000, w, n),
		"a head too far, and left":     train(601, 5, w, n),
		"no length, and left":          train(600, 0, w, n),
	}
}

// contradictory are bodies in the yard whose length does not fit the stretch.
func contradictory() map[string]api.Body {
	w, n := step(west, 0, 1), step(p, 0, 1)
	return map[string]api.Body{
		"longer than the stretch":             train(300, 301, w),
		"longer, the front at the end":        train(1000, 1001, w),
		"longer than two steps":               train(200, 1201, w, n),
		"longer than four steps":              train(1, 1907, step(q, 0, 2), step(south, 1, 0), step(p, 2, 0), step(west, 1, 0)),
		"as long as a train can be":           train(1000, api.MaxLength, w),
		"the rear end at the end of a step":   train(200, 200, w, n),
		"the rear end beyond it":              train(200, 199, w, n),
		"just the front":                      train(600, 1, w, n),
		"the first of three steps is left":    train(1, 601, w, n, step(north, 0, 1)),
		"the first two of three are left":     train(1, 1, w, n, step(north, 0, 1)),
		"the first step of the other way":     train(1, 1401, step(q, 0, 2), step(south, 1, 0), step(p, 2, 0), step(west, 1, 0)),
		"the crossing is left, in the second": train(200, 200, step(k, 0, 1), step(bow, 0, 1)),
	}
}

// P11.1
func TestCheck(t *testing.T) {
	for _, c := range coverings() {
		checkCheck(t, yard(), c.b, api.OK)
	}
	for about, b := range faulty() {
		if e := body.Check(yard(), b); e != api.ErrArg {
			t.Errorf("%s: Check(%v) = %d", about, b, e)
		}
	}
	for about, b := range contradictory() {
		if e := body.Check(yard(), b); e != api.ErrConflict {
			t.Errorf("%s: Check(%v) = %d", about, b, e)
		}
	}
	checkCheck(t, line(), train(5000, 5000, step(0, 0, 1), step(1, 0, 1)), api.ErrConflict)
}

// P11.1: all lengths and heads at and around their limits.
func TestCheckLimits(t *testing.T) {
	f0, f1, f2 := step(0, 0, 1), step(1, 0, 1), step(2, 0, 1)
	m := api.MaxLength
	checkCheck(t, far(), train(m, m, f0), api.OK)
	checkCheck(t, far(), train(m, m+1, f0), api.ErrArg)
	checkCheck(t, far(), train(m, m+1, f0, f1), api.ErrArg)
	checkCheck(t, far(), train(m+1, m, f0), api.ErrArg)
	checkCheck(t, far(), train(1, m, f0, f1), api.OK)
	checkCheck(t, far(), train(m-1, m, f0, f1), api.OK)
	checkCheck(t, far(), train(m, m, f0, f1), api.ErrConflict)
	checkCheck(t, far(), train(1, m, f0, f1, f2), api.ErrConflict)
	for head := -1; head <= 602; head++ {
		for _, length := range []int{-1, 0, 1, 2, 299, 300, 301, 598, 599, 600, 601, 602, 1299, 1300, 1301, 1598, 1599, 1600, 1601} {
			for _, b := range []api.Body{train(head, length, step(p, 0, 1)), train(head, length, step(west, 0, 1), step(p, 0, 1))} {
				e, _ := errorOf(yard(), b)
				checkCheck(t, yard(), b, e)
			}
		}
	}
	// A train around a whole ring.
	n := api.MaxElements
	checkCheck(t, ring(n), train(1000, 1000*n, round(5, n, n)...), api.OK)
	checkCheck(t, ring(n), train(1, 1000*n-1998, round(5, n, n)...), api.OK)
	checkCheck(t, ring(n), train(1, 1000*n-1999, round(5, n, n)...), api.ErrConflict)
	checkCheck(t, ring(n), train(1, 1000*n, round(5, n, n)...), api.ErrConflict)
	checkCheck(t, ring(n), train(1, 1000*n+1, round(5, n+1, n)...), api.ErrArg)
}

// P11.2
func TestRear(t *testing.T) {
	for _, c := range coverings() {
		checkRear(t, yard(), c.b, c.b.Steps[0].El, c.offset)
	}
	for _, b := range faulty() {
		checkRear(t, yard(), b, -1, 0)
	}
	for _, b := range contradictory() {
		checkRear(t, yard(), b, -1, 0)
	}
	checkRear(t, far(), train(api.MaxLength, 1, step(1, 1, 0)), 1, api.MaxLength-1)
	checkRear(t, far(), train(1, api.MaxLength, step(2, 1, 0), step(1, 1, 0)), 2, 1)
}

// P11.3
func TestSections(t *testing.T) {
	w, n, s := step(west, 0, 1), step(p, 0, 1), step(p, 0, 2)
	checkSections(t, yard(), train(1, 1, w), 4)
	checkSections(t, yard(), train(1, 2, w, n), 2, 4)
	checkSections(t, yard(), train(1, 902, n, step(north, 0, 1), step(k, 0, 1)), 2, 3, 5)
	checkSections(t, yard(), train(1, 2500, w, s, step(south, 0, 1), step(q, 2, 0), step(east, 0, 1)), 0, 1, 2, 4)
	checkSections(t, yard(), train(1, 2500, step(east, 1, 0), step(q, 0, 2), step(south, 1, 0), step(p, 2, 0), step(west, 1, 0)), 0, 1, 2, 4)
	checkSections(t, far(), train(1, 2, step(0, 0, 1), step(1, 0, 1)), 0)
	checkSections(t, ring(4), train(1, 2002, round(3, 4, 4)...), 0, 1)
	// What follows is no body.
	checkSections(t, yard(), api.Body{})
	checkSections(t, yard(), train(5, 7))
	checkSections(t, yard(), train(-1, 0, step(back, 7, 7), step(east, 0, 0), w), 1, 4)
	checkSections(t, yard(), train(0, math.MinInt, step(-1, 0, 1), step(count, 0, 1), step(math.MaxInt, 0, 1), step(math.MinInt, 0, 1)))
	checkSections(t, yard(), train(0, 0, step(count, 0, 1), step(k, 0, 1), step(-1, 0, 1), step(south, 1, 0)), 0, 3)
	checkSections(t, yard(), train(0, 0, step(1<<32+p, 0, 1), w, step(-west-2, 0, 1)), 4)
	checkSections(t, yard(), train(0, 0, slices.Repeat([]api.Step{w, n, step(bow, 0, 1)}, 5000)...), 2, 4, 6)
	checkSections(t, yard(), train(300, 301, w, w), 4)
}

// P11.3
func TestCovers(t *testing.T) {
	b := train(1, 1500, step(west, 0, 1), step(p, 0, 2), step(south, 0, 1))
	checkCovers(t, b, west, step(west, 0, 1), true)
	checkCovers(t, b, p, step(p, 0, 2), true)
	checkCovers(t, b, south, step(south, 0, 1), true)
	for _, el := range append(farNumbers(), north, q, east, count) {
		if el != west && el != p && el != south {
			checkCovers(t, b, el, api.Step{}, false)
		}
	}
	// What follows is no body.
	checkCovers(t, api.Body{}, 0, api.Step{}, false)
	checkCovers(t, train(5, 7), 0, api.Step{}, false)
	twice := train(0, -1, step(3, 9, 9), step(-1, 5, 4), step(0, 0, 0), step(3, 0, 1), step(-1, 7, 7), step(math.MaxInt, 1, 2))
	checkCovers(t, twice, 3, step(3, 9, 9), true)
	checkCovers(t, twice, -1, step(-1, 5, 4), true)
	checkCovers(t, twice, 0, step(0, 0, 0), true)
	checkCovers(t, twice, math.MaxInt, step(math.MaxInt, 1, 2), true)
	checkCovers(t, twice, 1, api.Step{}, false)
	checkCovers(t, train(0, 0, slices.Repeat([]api.Step{step(1, 0, 1)}, 5000)...), 2, api.Step{}, false)
}

// P11.4: movements within an element, and distances that are not accepted.
func TestMoveWithin(t *testing.T) {
	b := train(400, 300, step(west, 0, 1))
	for _, d := range []int{0, -1, -600, -1 << 32, math.MinInt} {
		checkMove(t, yard(), lie(1, 1), b, d, b, 0, false)
		checkMove(t, yard(), nil, train(1000, 5, step(west, 0, 1)), d, train(1000, 5, step(west, 0, 1)), 0, false)
	}
	for d := range 601 {
		checkMove(t, yard(), lie(1, 1), b, d, train(400+d, 300, step(west, 0, 1)), d, false)
	}
	checkMove(t, yard(), nil, train(1, 1, step(p, 2, 0)), 599, train(600, 1, step(p, 2, 0)), 599, false)
	f0, f1, f2 := step(0, 0, 1), step(1, 0, 1), step(2, 0, 1)
	m := api.MaxLength
	for _, d := range []int{m, m + 1, 2 * m, 1 << 32, math.MaxInt} {
		checkMove(t, far(), nil, train(1, 1, f0), d, train(1, 1, f1), m, false)
		checkMove(t, far(), nil, train(7, 2, f0), d, train(7, 2, f1), m, false)
		checkMove(t, far(), nil, train(7, 7, f0), d, train(7, 7, f1), m, false)
		checkMove(t, far(), nil, train(m, m, f0), d, train(m, m, f1), m, false)
		checkMove(t, far(), nil, train(2, m, f0, f1), d, train(2, m, f1, f2), m, false)
		checkMove(t, far(), nil, train(m, m, f2), d, train(m, m, f2), 0, true)
		checkMove(t, far(), nil, train(1, 1, f2), d, train(m, 1, f2), m-1, true)
	}
	checkMove(t, far(), nil, train(1, 1, f0), m-1, train(m, 1, f0), m-1, false)
	checkMove(t, far(), nil, train(1, 1, f2), m-1, train(m, 1, f2), m-1, false)
	checkMove(t, far(), nil, train(m, 1, f0), m, train(m, 1, f1), m, false)
}

// P11.4: over points and crossings, and what is left at the rear.
func TestMoveOver(t *testing.T) {
	w, toNorth, toSouth := step(west, 0, 1), step(p, 0, 1), step(p, 0, 2)
	north0, south0, q2, east0 := step(north, 0, 1), step(south, 0, 1), step(q, 2, 0), step(east, 0, 1)
	b := train(400, 300, w)
	for _, c := range []struct {
		positions []int
		d         int
		want      api.Body
	}{
		{lie(1, 0), 600, train(1000, 300, w)},
		{lie(1, 0), 601, train(1, 300, w, toNorth)},
		{lie(2, 0), 601, train(1, 300, w, toSouth)},
		{lie(1, 0), 899, train(299, 300, w, toNorth)},
		{lie(1, 0), 900, train(300, 300, toNorth)},
		{lie(2, 0), 900, train(300, 300, toSouth)},
		{lie(2, 0), 901, train(301, 300, toSouth)},
		{lie(1, 0), 1200, train(600, 300, toNorth)},
		{lie(1, 0), 1201, train(1, 300, toNorth, north0)},
		{lie(1, 0), 1500, train(300, 300, north0)},
		{lie(2, 2), 2000, train(800, 300, south0)},
		{lie(2, 2), 2001, train(1, 300, south0, q2)},
		{lie(2, 2), 2505, train(505, 300, q2)},
		{lie(2, 2), 2700, train(195, 300, q2, east0)},
		{lie(2, 2), 7505, train(5000, 300, east0)},
		{lie(1, 0), 2800, train(700, 300, step(k, 0, 1))},
		{lie(1, 0), 3900, train(1100, 300, step(bow, 0, 1))},
		{lie(1, 0), 3901, train(1, 300, step(bow, 0, 1), step(k, 2, 3))},
		{lie(1, 0), 4700, train(100, 300, step(k, 2, 3), step(back, 0, 1))},
		{lie(1, 0), 5100, train(500, 300, step(back, 0, 1))},
		// Positions of elements that are not points do not matter, nor do those of points that are not passed.
		{[]int{2, 1, 2, 7, -1, 9, 2, 2, 2, 1, 1}, 4700, train(100, 300, step(k, 2, 3), step(back, 0, 1))},
		{[]int{7, 2, math.MinInt, 0, 2}, 2700, train(195, 300, q2, east0)},
		{[]int{1, 1}, 2800, train(700, 300, step(k, 0, 1))},
	} {
		checkMove(t, yard(), c.positions, b, c.d, c.want, c.d, false)
	}
	// A train over many elements, which goes back with its rear ahead.
	long := train(5000, 7905, w, toSouth, south0, q2, east0)
	checkMove(t, yard(), lie(2, 2), train(1000, 1000, w), 6905, train(5000, 1000, east0), 6905, false)
	checkMove(t, yard(), lie(2, 2), long, 1, long, 0, true)
	home := []api.Step{step(east, 1, 0), step(q, 0, 2), step(south, 1, 0), step(p, 2, 0), step(west, 1, 0)}
	checkMove(t, yard(), lie(2, 2), train(5000, 4000, home[0]), 2405, train(500, 4000, home...), 2405, false)
	checkMove(t, yard(), lie(2, 2), train(5000, 2905, home[0]), 2905, train(1000, 2905, home[1:]...), 2905, false)
	checkMove(t, yard(), lie(2, 2), train(5000, 2906, home[0]), 2905, train(1000, 2906, home...), 2905, false)
	// The points are passed already: under the train their position does not matter.
	checkMove(t, yard(), lie(0, 2), train(1, 601, toSouth, south0), 900, train(101, 601, south0, q2), 900, false)
	checkMove(t, yard(), nil, train(1, 1, toSouth), 650, train(51, 1, south0), 650, false)
}

// P11.4: where the track ends, and trains that stop there.
func TestMoveEnds(t *testing.T) {
	w, toNorth := step(west, 0, 1), step(p, 0, 1)
	for _, d := range []int{601, 602, 5000, api.MaxLength, math.MaxInt} {
		// Points in no position, or without a given one.
		for _, positions := range [][]int{nil, {}, {1}, {2}, {1, 0}, {1, 0, 1}, {1, 3}, {2, -1, 2}, {1, 1 << 32}, {1, 1<<32 + 1}, {1, math.MinInt}} {
			checkMove(t, yard(), positions, train(400, 300, w), d, train(1000, 300, w), 600, true)
		}
		// The end of the track.
		checkMove(t, yard(), lie(1, 1), train(4400, 300, step(east, 0, 1)), d, train(5000, 300, step(east, 0, 1)), 600, true)
		checkMove(t, yard(), lie(1, 1), train(400, 300, step(west, 1, 0)), d, train(1000, 300, step(west, 1, 0)), 600, true)
		checkMove(t, yard(), lie(1, 1), train(405, 300, step(q, 0, 1)), d, train(505, 300, step(q, 0, 1)), 100, true)
		// Points in the wrong position, in each direction.
		for _, pos := range []int{0, 1, 3} {
			checkMove(t, yard(), lie(2, pos), train(200, 200, step(south, 0, 1)), d, train(800, 200, step(south, 0, 1)), 600, true)
			checkMove(t, yard(), lie(pos, 2), train(200, 200, step(south, 1, 0)), d, train(800, 200, step(south, 1, 0)), 600, true)
		}
		for _, pos := range []int{0, 2, 3} {
			checkMove(t, yard(), lie(pos, 2), train(300, 200, step(north, 1, 0)), d, train(900, 200, step(north, 1, 0)), 600, true)
		}
	}
	// What is left where the train stops is dropped.
	toSouth, south0 := step(p, 0, 2), step(south, 0, 1)
	checkMove(t, yard(), lie(2, 1), train(400, 800, w, toSouth), 5000, train(800, 800, south0), 1000, true)
	checkMove(t, yard(), lie(2, 1), train(400, 801, w, toSouth), 5000, train(800, 801, toSouth, south0), 1000, true)
	checkMove(t, yard(), lie(2, 1), train(400, 1400, w, toSouth), 5000, train(800, 1400, toSouth, south0), 1000, true)
	checkMove(t, yard(), lie(1, 1), train(1, 300, w, toNorth), 599, train(600, 300, toNorth), 599, false)
}

// P11.4: trains that come to an element that they cover already, or have just left.
func TestMoveAround(t *testing.T) {
	k0, bow0, k2 := step(k, 0, 1), step(bow, 0, 1), step(k, 2, 3)
	checkMove(t, yard(), nil, train(400, 1100, k0, bow0), 700, train(1100, 1100, bow0), 700, false)
	checkMove(t, yard(), nil, train(400, 1100, k0, bow0), 701, train(1, 1100, bow0, k2), 701, false)
	checkMove(t, yard(), nil, train(400, 1099, k0, bow0), 701, train(1, 1099, bow0, k2), 701, false)
	checkMove(t, yard(), nil, train(401, 1101, k0, bow0), 699, train(1100, 1101, k0, bow0), 699, false)
	checkMove(t, yard(), nil, train(401, 1101, k0, bow0), 700, train(1100, 1101, k0, bow0), 699, true)
	checkMove(t, yard(), nil, train(700, 1101, k0, bow0), 5000, train(1100, 1101, k0, bow0), 400, true)
	for n := 2; n <= 6; n++ {
		fits := 1000 * (n - 1)
		for _, length := range []int{1, fits - 1, fits, fits + 1, 1000*n - 1, 1000 * n} {
			b := train(length-(length-1)/1000*1000, length, round(0, (length-1)/1000+1, n)...)
			want, moved, ended := crawl(ring(n), nil, b, 2500)
			if ended != (length > fits) {
				t.Errorf("a train of the length %d on a ring of %d: %d, %v", length, n, moved, ended)
			}
			checkMove(t, ring(n), nil, b, 2500, want, moved, ended)
		}
		checkMove(t, ring(n), nil, train(1000, fits, round(1, n-1, n)...), 1000*n*7, train(1000, fits, round(1, n-1, n)...), 1000*n*7, false)
	}
	small := api.Layout{
		Name: "small", Sections: []string{"x"},
		Elements: []api.Element{{Name: "a", Kind: api.ElTrack, Length: 500, Speed: 100}, {Name: "b", Kind: api.ElPoint, Length: 500, Speed: 100, Slow: 100}},
		Joints:   []api.Joint{joint(0, 0, 0, 1), joint(1, 2, 1, 1)},
	}
	if e := layout.Check(small); e != api.OK {
		t.Fatal(e)
	}
	for _, s := range []api.Step{step(0, 0, 1), step(0, 1, 0), step(1, 0, 1), step(1, 0, 2), step(1, 2, 0)} {
		for _, pos := range []int{1, 2} {
			checkMove(t, small, []int{pos, pos}, train(1, 1, s), 499, train(500, 1, s), 499, false)
			checkMove(t, small, []int{pos, pos}, train(1, 1, s), 500, train(500, 1, s), 499, true)
		}
	}
}

// P11.4: what Check rejects does not move.
func TestMoveRejected(t *testing.T) {
	for _, d := range []int{math.MinInt, -1, 0, 1, 5000, math.MaxInt} {
		for _, b := range faulty() {
			checkMove(t, yard(), lie(1, 1), b, d, b, 0, false)
		}
		for _, b := range contradictory() {
			checkMove(t, yard(), lie(1, 1), b, d, b, 0, false)
		}
	}
}

// P11.1 to P11.4: bodies, bodies that were changed, and movements, compared with the definitions.
func TestAllRandom(t *testing.T) {
	r := rand.New(rand.NewSource(11))
	errors, ends := map[api.Errno]int{}, map[bool]int{}
	for _, l := range layouts(t, r, 700) {
		for range 12 {
			b := randomBody(r, l)
			for range 3 {
				e, offset := errorOf(l, b)
				errors[e]++
				checkCheck(t, l, b, e)
				if e == api.OK {
					checkRear(t, l, b, b.Steps[0].El, offset)
				} else {
					checkRear(t, l, b, -1, 0)
				}
				checkParts(t, l, b)
				positions, d := randomPositions(r, l), r.Intn(4000)-100
				after, moved, ended := crawl(l, positions, b, d)
				ends[ended]++
				checkMove(t, l, positions, b, d, after, moved, ended)
				if b = disturb(r, l, b); len(b.Steps) == 0 {
					break
				}
			}
		}
	}
	if errors[api.OK] < 1000 || errors[api.ErrArg] < 1000 || errors[api.ErrConflict] < 1000 || ends[true] < 1000 || ends[false] < 1000 {
		t.Errorf("errors: %v, trains that were stopped or not: %v", errors, ends)
	}
}

// checkParts compares the sections and the steps of a body with the definitions.
func checkParts(t *testing.T, l api.Layout, b api.Body) {
	t.Helper()
	var sections []int
	for section := range l.Sections {
		if slices.ContainsFunc(b.Steps, func(s api.Step) bool { return exists(l, s.El) && l.Elements[s.El].Section == section }) {
			sections = append(sections, section)
		}
	}
	checkSections(t, l, b, sections...)
	for el := -2; el < 15; el++ {
		i := slices.IndexFunc(b.Steps, func(s api.Step) bool { return s.El == el })
		if i < 0 {
			checkCovers(t, b, el, api.Step{}, false)
		} else {
			checkCovers(t, b, el, b.Steps[i], true)
		}
	}
}

// forMoves visits movements of bodies over many layouts.
func forMoves(t *testing.T, seed int64, visit func(l api.Layout, positions []int, b api.Body, d int)) {
	t.Helper()
	r := rand.New(rand.NewSource(seed))
	for _, l := range layouts(t, r, 1000) {
		for range 20 {
			b := randomBody(r, l)
			checkCheck(t, l, b, api.OK)
			_, offset := errorOf(l, b)
			room := lengthOf(l, b.Steps[len(b.Steps)-1]) - b.Head
			lengths := []int{r.Intn(5000), r.Intn(700), room, room + 1, lengthOf(l, b.Steps[0]) - offset, b.Length, b.Length - 1}
			visit(l, randomPositions(r, l), b, lengths[r.Intn(len(lengths))])
		}
	}
}

// P11.5: what a train covers after a movement.
func TestMoveKeeps(t *testing.T) {
	kept := 0
	forMoves(t, 115, func(l api.Layout, positions []int, b api.Body, d int) {
		after, moved, _ := body.Move(l, positions, b, d)
		checkCheck(t, l, after, api.OK)
		if after.Length != b.Length || moved < 0 || moved > d {
			t.Errorf("%s: %v moved by %d of %d, to %v", l.Name, b, moved, d, after)
		}
		if moved == 0 && !same(after, b) {
			t.Errorf("%s: %v became %v without a movement", l.Name, b, after)
		}
		if moved >= b.Length {
			return
		}
		kept++
		front := b.Steps[len(b.Steps)-1]
		checkCovers(t, after, front.El, front, true)
		// From the new rear on, all that was covered still is.
		rear := slices.Index(b.Steps, after.Steps[0])
		if rear < 0 || !slices.Equal(after.Steps[:len(b.Steps)-rear], b.Steps[rear:]) {
			t.Errorf("%s: %v moved by %d, to %v", l.Name, b, moved, after)
		}
	})
	if kept < 1000 {
		t.Errorf("movements by less than the length: %d", kept)
	}
}

// P11.5: movements in two parts, and of trains that were stopped.
func TestMoveInParts(t *testing.T) {
	r := rand.New(rand.NewSource(1150))
	stopped := 0
	forMoves(t, 116, func(l api.Layout, positions []int, b api.Body, d int) {
		after, moved, ended := body.Move(l, positions, b, d)
		first := 0
		if d > 0 {
			first = r.Intn(d + 1)
		}
		half, a, _ := body.Move(l, positions, b, first)
		checkMove(t, l, positions, half, d-first, after, moved-a, ended && d > first)
		if !ended {
			return
		}
		stopped++
		for _, n := range []int{1, 2, d, api.MaxLength, math.MaxInt} {
			checkMove(t, l, positions, after, n, after, 0, true)
		}
	})
	if stopped < 1000 {
		t.Errorf("trains that were stopped: %d", stopped)
	}
}

// P11.5: around a ring, centimeter by centimeter and at once.
func TestMoveAtOnce(t *testing.T) {
	l, start := ring(5), train(1000, 2700, round(1, 3, 5)...)
	b := start
	for d := 1; d <= 6000; d++ {
		next, n, ended := body.Move(l, nil, b, 1)
		if n != 1 || ended {
			t.Fatalf("%v became %v, by %d, %v", b, next, n, ended)
		}
		b = next
		checkMove(t, l, nil, start, d, b, d, false)
	}
}

// extremes are layouts that are not valid, with numbers far off.
func extremes(n, m int) []api.Layout {
	tracks := func(lengths ...int) api.Layout {
		l := api.Layout{}
		for i, length := range lengths {
			l.Elements = append(l.Elements, api.Element{Kind: api.ElTrack, Length: length, Section: n})
			// Each track leads to the next one, and the last one to the second.
			l.Joints = append(l.Joints, joint(i, 1, i%(len(lengths)-1)+1, 0))
		}
		return l
	}
	odd := yard()
	odd.Elements[south] = api.Element{Kind: n, Length: m, Section: m}
	odd.Joints = append(odd.Joints, joint(n, n, m, n), joint(west, 0, n, m), joint(back, 1, m, 0), joint(n, 1, n, 0))
	return []api.Layout{
		{}, {Elements: odd.Elements}, {Joints: odd.Joints}, odd,
		tracks(1000, n, m), tracks(1000, n, m, n, m), tracks(1000, n, 1, m, 1), tracks(n, m, 1000, m), tracks(1000, 1, 1, n),
	}
}

// 0.1: layouts that are not valid, and numbers far off. What is returned for these layouts is not promised.
func TestExtremes(t *testing.T) {
	numbers := append(farNumbers(), 0, 1, 2, 3, 1000)
	for _, n := range numbers {
		for _, m := range numbers {
			for _, l := range extremes(n, m) {
				for _, b := range []api.Body{
					train(1000, 1, step(0, 0, 1)), train(1, 2, step(0, 0, 1), step(1, 0, 1)), train(n, m, step(0, 0, 1)), train(1, m, step(1, 0, 1)),
					train(m, n, step(n, m, 0)), train(m, 1, step(0, 0, 1), step(1, 0, 1), step(2, 0, 1)), train(n, m), train(1, 1, step(west, 1, 0)),
				} {
					body.Check(l, b)
					body.Rear(l, b)
					body.Sections(l, b)
					body.Covers(b, n)
					for _, d := range []int{1, 2500, m} {
						body.Move(l, []int{n, m, n, m, n}, b, min(d, 20000))
					}
				}
			}
		}
	}
}

// 0.1: movements over elements without a length end, and so do those over the shortest ones.
func TestMoveForEver(t *testing.T) {
	for _, n := range []int{math.MinInt, -1 << 62, -1, 0, 1} {
		for _, m := range []int{math.MinInt, -1 << 62, -1, 0, 1} {
			for _, l := range extremes(n, m) {
				body.Move(l, []int{1, 1}, train(1000, 1, step(0, 0, 1)), math.MaxInt)
				body.Move(l, []int{1, 1}, train(1, 1, step(2, 0, 1)), math.MaxInt)
			}
		}
	}
}

// 0.4: arguments stay as they are, also behind their ends, and results share no memory with them.
func TestArgumentsStay(t *testing.T) {
	l := yard()
	positions := append(lie(2, 2), 5, 6, 7)
	bodies := []api.Body{train(400, 300, step(west, 0, 1)), train(1, 300, step(p, 0, 2), step(south, 0, 1)), train(500, 500, step(south, 0, 1), step(q, 2, 0))}
	for _, b := range faulty() {
		bodies = append(bodies, b)
	}
	for _, b := range contradictory() {
		bodies = append(bodies, b)
	}
	for _, b := range bodies {
		more := append(slices.Clone(b.Steps), step(77, 7, 7), step(78, 8, 8))
		before := slices.Clone(more)
		b.Steps = more[:len(b.Steps)]
		for _, d := range []int{0, 1, 700, 5000} {
			after, _, _ := body.Move(l, positions[:count], b, d)
			body.Check(l, b)
			body.Rear(l, b)
			sections := body.Sections(l, b)
			clear(after.Steps[:cap(after.Steps)])
			clear(sections)
			if !slices.Equal(more, before) || !reflect.DeepEqual(l, yard()) || !slices.Equal(positions, append(lie(2, 2), 5, 6, 7)) {
				t.Fatalf("the steps became %v, were %v; the layout became %+v, the positions %v", more, before, l, positions)
			}
		}
	}
}
