package walk_test

import (
	"fmt"
	"math"
	"math/rand"
	"reflect"
	"slices"
	"strings"
	"testing"

	"signalling/api"
	"signalling/layout"
	"signalling/rail"
	"signalling/walk"
)

func end(el, side int) api.End { return api.End{El: el, Side: side} }

func joint(el, side, otherEl, otherSide int) api.Joint {
	return api.Joint{A: end(el, side), B: end(otherEl, otherSide)}
}

func step(el, in, out int) api.Step { return api.Step{El: el, In: in, Out: out} }

func setting(el, pos int) api.Setting { return api.Setting{El: el, Pos: pos} }

// line is the line of DOC.md.
func line() api.Layout {
	return api.Layout{
		Name:     "line",
		Sections: []string{"a", "b", "c"},
		Elements: []api.Element{
			{Name: "a", Kind: api.ElTrack, Length: 20000, Speed: 3000, Section: 0},
			{Name: "b", Kind: api.ElTrack, Length: 20000, Speed: 3000, Section: 1},
			{Name: "c", Kind: api.ElTrack, Length: 20000, Speed: 3000, Section: 2},
		},
		Joints:  []api.Joint{joint(0, 1, 1, 0), joint(1, 1, 2, 0)},
		Signals: []api.Signal{{Name: "s1", At: end(0, 1)}, {Name: "s2", At: end(1, 1)}},
	}
}

// The elements of the yard.
const (
	west = iota // a track at the stem of the points q
	q           // points
	east        // a track at the stem of the points p
	p           // points
	k           // a crossing, whose sides 1 and 2 are joined
	loop        // points, whose legs are joined
	far         // a track that is joined to nothing
)

// yard has all kinds of elements. The points p and q are joined by their reverse legs; from the normal leg of p, a way
// leads over one track of the crossing and back over the other one, to the reverse leg of the points loop.
// The section x is that of east and of q, but not of p between them.
func yard() api.Layout {
	return api.Layout{
		Name:     "yard",
		Sections: []string{"w", "x", "y"},
		Elements: []api.Element{
			{Name: "west", Kind: api.ElTrack, Length: 4000, Grade: 3, Speed: 3000, Section: 2},
			{Name: "q", Kind: api.ElPoint, Length: 650, Speed: 2000, Slow: 1000, Section: 1},
			{Name: "east", Kind: api.ElTrack, Length: 1000, Grade: 10, Speed: 2000, Section: 1},
			{Name: "p", Kind: api.ElPoint, Length: 600, Speed: 2000, Slow: 1000, Section: 0},
			{Name: "k", Kind: api.ElCross, Length: 700, Grade: -10, Speed: 1500, Section: 0},
			{Name: "loop", Kind: api.ElPoint, Length: 505, Speed: 2000, Slow: 100, Section: 2},
			{Name: "far", Kind: api.ElTrack, Length: 1000000, Speed: 10000, Section: 2},
		},
		Joints: []api.Joint{
			joint(east, 1, p, 0), joint(q, 2, p, 2), joint(west, 0, q, 0), joint(p, 1, k, 0),
			joint(k, 2, k, 1), joint(loop, 0, k, 3), joint(loop, 1, loop, 2),
		},
		Signals: []api.Signal{{Name: "s", At: end(east, 1)}, {Name: "t", At: end(p, 0)}, {Name: "u", At: end(loop, 0), Overlap: 500}},
		Balises: []api.Balise{{Id: 7, El: east, Offset: 500}},
	}
}

// ring has as many elements as a layout can have, tracks that are joined to a circle.
func ring() api.Layout {
	l := api.Layout{Name: "ring", Sections: []string{"x", "y"}}
	for i := range api.MaxElements {
		l.Elements = append(l.Elements, api.Element{Name: fmt.Sprintf("e%d", i), Kind: api.ElTrack, Length: 1000 + i, Speed: 2000, Section: i % 2})
		l.Joints = append(l.Joints, joint(i, 1, (i+1)%api.MaxElements, 0))
	}
	return l
}

// round are steps that go on and on around the ring.
func round(n int) []api.Step {
	var way []api.Step
	for i := range n {
		way = append(way, step(i%api.MaxElements, 0, 1))
	}
	return way
}

// small has a single track, whose ends are joined.
func small() api.Layout {
	return api.Layout{
		Name: "small", Sections: []string{"x"},
		Elements: []api.Element{{Name: "a", Kind: api.ElTrack, Length: 500, Speed: 100}},
		Joints:   []api.Joint{joint(0, 0, 0, 1)},
	}
}

// randomLayout is a valid layout of a few elements of all kinds, most of whose ends are joined at random.
func randomLayout(r *rand.Rand) api.Layout {
	l := api.Layout{Name: "random"}
	sections := 1 + r.Intn(4)
	var ends []api.End
	for i := range sections + r.Intn(9) {
		e := api.Element{Name: fmt.Sprintf("e%d", i), Kind: 1 + r.Intn(3), Length: api.MinLength + r.Intn(5000), Speed: 100 + r.Intn(5000), Section: i}
		if i < sections {
			l.Sections = append(l.Sections, fmt.Sprintf("x%d", i))
		} else {
			e.Section = r.Intn(sections)
		}
		if e.Kind == api.ElPoint {
			e.Slow = 100
		}
		l.Elements = append(l.Elements, e)
		for side := range sidesOf(e.Kind) {
			ends = append(ends, end(i, side))
		}
	}
	r.Shuffle(len(ends), func(i, j int) { ends[i], ends[j] = ends[j], ends[i] })
	free := r.Intn(4)
	for ; len(ends) >= 2+free; ends = ends[2:] {
		l.Joints = append(l.Joints, api.Joint{A: ends[0], B: ends[1]})
		if l.Elements[ends[0].El].Section != l.Elements[ends[1].El].Section && r.Intn(3) == 0 {
			l.Signals = append(l.Signals, api.Signal{Name: fmt.Sprintf("s%d", len(l.Signals)), At: ends[0]})
		}
	}
	return l
}

// layouts are those written out here and random ones, all of them valid.
func layouts(t *testing.T, r *rand.Rand, random int) []api.Layout {
	t.Helper()
	all := []api.Layout{line(), yard(), ring(), small()}
	for range random {
		all = append(all, randomLayout(r))
	}
	for _, l := range all {
		if e := layout.Check(l); e != api.OK {
			t.Fatalf("%+v is not valid: %d", l, e)
		}
	}
	return all
}

// randomWay goes on from any end that exists, until it leads to no other element or is long enough.
func randomWay(r *rand.Rand, l api.Layout) []api.Step {
	el := r.Intn(len(l.Elements))
	at, ok := end(el, r.Intn(sidesOf(l.Elements[el].Kind))), true
	var way []api.Step
	for n := 1 + r.Intn(12); ok && len(way) < n && !visits(way, at.El); {
		outs := outsOf(l, at)
		s := step(at.El, at.Side, outs[r.Intn(len(outs))])
		way = append(way, s)
		at, ok = joinedTo(l, end(s.El, s.Out))
	}
	return way
}

// disturb changes one thing of a list of steps at random; what it becomes often is no way.
func disturb(r *rand.Rand, way []api.Step) []api.Step {
	i, j := r.Intn(len(way)), r.Intn(len(way))
	way = slices.Clone(way)
	switch r.Intn(8) {
	case 0:
		way[i].El = r.Intn(14) - 1
	case 1:
		way[i].In = r.Intn(6) - 1
	case 2:
		way[i].Out = r.Intn(6) - 1
	case 3:
		way[i].In, way[i].Out = way[i].Out, way[i].In
	case 4:
		way[i], way[j] = way[j], way[i]
	case 5:
		way = slices.Insert(way, i, way[j])
	case 6:
		way = slices.Delete(way, i, i+1)
	case 7:
		way = append(way, way[j])
	}
	return way
}

// anySteps are steps of which many are not possible, over elements that exist or not.
func anySteps(r *rand.Rand, l api.Layout) []api.Step {
	var steps []api.Step
	for range r.Intn(100) {
		steps = append(steps, step(r.Intn(len(l.Elements)+2)-1, r.Intn(5)-1, r.Intn(5)-1))
	}
	return steps
}

// The following say what the chapters define, without the packages.

func sidesOf(kind int) int {
	return map[int]int{api.ElTrack: 2, api.ElPoint: 3, api.ElCross: 4}[kind]
}

// positionFor is the position that a passage over a kind of elements needs, and whether it is possible.
func positionFor(kind, in, out int) (int, bool) {
	between := func(a, b int) bool { return in == a && out == b || in == b && out == a }
	switch kind {
	case api.ElTrack:
		return 0, between(0, 1)
	case api.ElCross:
		return 0, between(0, 1) || between(2, 3)
	case api.ElPoint:
		if between(0, 1) {
			return api.PtNormal, true
		}
		if between(0, 2) {
			return api.PtReverse, true
		}
	}
	return 0, false
}

func exists(l api.Layout, el int) bool { return el >= 0 && el < len(l.Elements) }

func isPossible(l api.Layout, s api.Step) bool {
	if !exists(l, s.El) {
		return false
	}
	_, ok := positionFor(l.Elements[s.El].Kind, s.In, s.Out)
	return ok
}

func joinedTo(l api.Layout, e api.End) (api.End, bool) {
	for _, j := range l.Joints {
		if j.A == e {
			return j.B, true
		}
		if j.B == e {
			return j.A, true
		}
	}
	return api.End{}, false
}

// outsOf are the sides where a train can leave that enters at an end, ascending.
func outsOf(l api.Layout, at api.End) []int {
	var outs []int
	for out := range 5 {
		if isPossible(l, step(at.El, at.Side, out)) {
			outs = append(outs, out)
		}
	}
	return outs
}

func visits(way []api.Step, el int) bool {
	return slices.ContainsFunc(way, func(s api.Step) bool { return s.El == el })
}

func isWay(l api.Layout, way []api.Step) bool {
	if len(way) < 1 || len(way) > api.MaxSteps {
		return false
	}
	for i, s := range way {
		if !isPossible(l, s) || visits(way[:i], s.El) {
			return false
		}
		if i > 0 {
			at, ok := joinedTo(l, end(way[i-1].El, way[i-1].Out))
			if !ok || at != end(s.El, s.In) {
				return false
			}
		}
	}
	return true
}

// measured are the length, the sections and the settings of steps.
func measured(l api.Layout, way []api.Step) (int, []int, []api.Setting) {
	length, sections := 0, []int{}
	needed := map[api.Setting]bool{}
	for _, s := range way {
		if !exists(l, s.El) {
			continue
		}
		e := l.Elements[s.El]
		length += e.Length
		if !slices.Contains(sections, e.Section) {
			sections = append(sections, e.Section)
		}
		pos, ok := positionFor(e.Kind, s.In, s.Out)
		needed[setting(s.El, pos)] = ok && e.Kind == api.ElPoint
	}
	var settings []api.Setting
	for el := range l.Elements {
		for _, pos := range []int{api.PtNormal, api.PtReverse} {
			if needed[setting(el, pos)] {
				settings = append(settings, setting(el, pos))
			}
		}
	}
	return length, sections, settings
}

// short are steps as a message shows them.
func short(way []api.Step) string {
	if len(way) > 2*api.MaxSteps {
		return fmt.Sprintf("%v and %d more", way[:api.MaxSteps], len(way)-api.MaxSteps)
	}
	return fmt.Sprint(way)
}

func checkNext(t *testing.T, l api.Layout, s api.Step, want api.End, wantOk bool) {
	t.Helper()
	if e, ok := walk.Next(l, s); e != want || ok != wantOk {
		t.Errorf("%s: Next(%v) = %v, %v; want %v, %v", l.Name, s, e, ok, want, wantOk)
	}
}

func checkBranches(t *testing.T, l api.Layout, at api.End, want []api.Step) {
	t.Helper()
	if b := walk.Branches(l, at); !slices.Equal(b, want) {
		t.Errorf("%s: Branches(%v) = %v, want %v", l.Name, at, b, want)
	}
}

func checkValid(t *testing.T, l api.Layout, way []api.Step, want bool) {
	t.Helper()
	if ok := walk.Valid(l, way); ok != want {
		t.Errorf("%s: Valid(%s) = %v; joints %v", l.Name, short(way), ok, l.Joints)
	}
}

func checkReverse(t *testing.T, way, want []api.Step) {
	t.Helper()
	if back := walk.Reverse(way); !slices.Equal(back, want) {
		t.Errorf("Reverse(%s) = %s, want %s", short(way), short(back), short(want))
	}
}

func checkMeasures(t *testing.T, l api.Layout, way []api.Step, length int, sections []int, settings []api.Setting) {
	t.Helper()
	if n := walk.Length(l, way); n != length {
		t.Errorf("%s: Length(%s) = %d, want %d", l.Name, short(way), n, length)
	}
	if s := walk.Sections(l, way); !slices.Equal(s, sections) {
		t.Errorf("%s: Sections(%s) = %v, want %v", l.Name, short(way), s, sections)
	}
	if s := walk.Settings(l, way); !slices.Equal(s, settings) {
		t.Errorf("%s: Settings(%s) = %v, want %v", l.Name, short(way), s, settings)
	}
}

// farNumbers share low bits with small ones.
func farNumbers() []int {
	return []int{math.MinInt, math.MinInt + 1, -1 << 32, -256, -3, -2, -1, 256, 257, 1 << 32, 1<<32 + 1, 1<<32 + 2, math.MaxInt}
}

// P9.1 to P9.3: the examples of the chapter.
func TestExamples(t *testing.T) {
	a, b, c := step(0, 0, 1), step(1, 0, 1), step(2, 0, 1)
	checkNext(t, line(), a, end(1, 0), true)
	checkNext(t, line(), c, api.End{}, false)
	checkBranches(t, line(), end(1, 0), []api.Step{b})
	checkValid(t, line(), []api.Step{a, b}, true)
	checkMeasures(t, line(), []api.Step{a, b}, 40000, []int{0, 1}, nil)
	checkReverse(t, []api.Step{a, b}, []api.Step{step(1, 1, 0), step(0, 1, 0)})
	checkValid(t, line(), []api.Step{a, c}, false)
}

// P9.1
func TestNext(t *testing.T) {
	for _, c := range []struct {
		s    api.Step
		want api.End
	}{
		{step(east, 0, 1), end(p, 0)},
		{step(p, 1, 0), end(east, 1)},
		{step(p, 2, 0), end(east, 1)},
		{step(p, 0, 1), end(k, 0)},
		{step(p, 0, 2), end(q, 2)},
		{step(q, 0, 2), end(p, 2)},
		{step(q, 2, 0), end(west, 0)},
		{step(west, 1, 0), end(q, 0)},
		{step(k, 0, 1), end(k, 2)},
		{step(k, 3, 2), end(k, 1)},
		{step(k, 2, 3), end(loop, 0)},
		{step(loop, 0, 1), end(loop, 2)},
		{step(loop, 0, 2), end(loop, 1)},
		// Only the end where a step leaves matters, whether the step is possible or not.
		{step(p, 1, 2), end(q, 2)},
		{step(east, 1, 1), end(p, 0)},
		{step(k, 0, 3), end(loop, 0)},
		{step(p, 17, 1), end(k, 0)},
		{step(p, math.MinInt, 0), end(east, 1)},
	} {
		checkNext(t, yard(), c.s, c.want, true)
	}
	for _, s := range []api.Step{
		step(east, 1, 0), step(west, 0, 1), step(q, 0, 1), step(far, 0, 1), step(far, 1, 0),
		step(east, 0, 2), step(east, 0, -1), step(p, 0, 3), step(k, 0, 4), step(7, 0, 0), step(-1, 0, 1),
	} {
		checkNext(t, yard(), s, api.End{}, false)
	}
	checkNext(t, small(), step(0, 0, 1), end(0, 0), true)
	checkNext(t, small(), step(0, 1, 0), end(0, 1), true)
	checkNext(t, ring(), step(api.MaxElements-1, 0, 1), end(0, 0), true)
	for _, n := range farNumbers() {
		checkNext(t, yard(), step(n, 0, 1), api.End{}, false)
		checkNext(t, yard(), step(p, 0, n), api.End{}, false)
		checkNext(t, yard(), step(p, n, 0), end(east, 1), true)
	}
}

// P9.1
func TestBranches(t *testing.T) {
	for _, c := range []struct {
		at   api.End
		want []api.Step
	}{
		{end(east, 0), []api.Step{step(east, 0, 1)}},
		{end(east, 1), []api.Step{step(east, 1, 0)}},
		{end(p, 0), []api.Step{step(p, 0, 1), step(p, 0, 2)}},
		{end(p, 1), []api.Step{step(p, 1, 0)}},
		{end(p, 2), []api.Step{step(p, 2, 0)}},
		{end(loop, 0), []api.Step{step(loop, 0, 1), step(loop, 0, 2)}},
		{end(k, 0), []api.Step{step(k, 0, 1)}},
		{end(k, 1), []api.Step{step(k, 1, 0)}},
		{end(k, 2), []api.Step{step(k, 2, 3)}},
		{end(k, 3), []api.Step{step(k, 3, 2)}},
		{end(far, 1), []api.Step{step(far, 1, 0)}},
		{end(east, 2), nil}, {end(east, -1), nil}, {end(p, 3), nil}, {end(p, -1), nil}, {end(k, 4), nil}, {end(k, -1), nil},
		{end(7, 0), nil}, {end(8, 0), nil}, {end(-1, 0), nil},
	} {
		checkBranches(t, yard(), c.at, c.want)
	}
	for _, n := range farNumbers() {
		checkBranches(t, yard(), end(n, 0), nil)
		checkBranches(t, yard(), end(p, n), nil)
		checkBranches(t, yard(), end(k, n), nil)
	}
}

// ways are some over the yard.
func ways() [][]api.Step {
	return [][]api.Step{
		{step(east, 0, 1)},
		{step(far, 1, 0)},
		{step(k, 2, 3)},
		{step(p, 2, 0)},
		{step(east, 0, 1), step(p, 0, 1), step(k, 0, 1)},
		{step(east, 0, 1), step(p, 0, 2), step(q, 2, 0), step(west, 0, 1)},
		{step(west, 1, 0), step(q, 0, 2), step(p, 2, 0), step(east, 1, 0)},
		{step(k, 2, 3), step(loop, 0, 1)},
		{step(loop, 2, 0), step(k, 3, 2)},
		{step(q, 1, 0), step(west, 0, 1)},
	}
}

// P9.2: lists of steps over the yard that are no ways.
func notWays() map[string][]api.Step {
	return map[string][]api.Step{
		"no steps":                           nil,
		"an empty list":                      {},
		"an element behind the last one":     {step(7, 0, 1)},
		"an element before the first one":    {step(-1, 0, 1)},
		"an element far off":                 {step(math.MaxInt, 0, 1)},
		"an element that does not exist":     {step(east, 0, 1), step(7, 0, 1)},
		"a side 2 of a track":                {step(east, 0, 2)},
		"a side -1 of a track":               {step(east, -1, 1)},
		"sides of a crossing, of a track":    {step(east, 2, 3)},
		"a side 3 of points":                 {step(p, 0, 3)},
		"a side 4 of a crossing":             {step(k, 4, 0)},
		"a side far off":                     {step(p, 0, 1<<32+1)},
		"from leg to leg":                    {step(p, 1, 2)},
		"from leg to leg, the other way":     {step(p, 2, 1)},
		"from track to track of a crossing":  {step(k, 0, 3)},
		"from track to track, the other way": {step(k, 2, 1)},
		"out where it enters":                {step(east, 1, 1)},
		"out where it enters, of points":     {step(p, 0, 0)},
		"legs in between":                    {step(q, 0, 2), step(p, 2, 1), step(k, 0, 1)},
		"the last passage is not possible":   {step(east, 0, 1), step(p, 0, 0)},

		"an element is left out":               {step(east, 0, 1), step(k, 0, 1)},
		"the elements are exchanged":           {step(p, 0, 1), step(east, 0, 1)},
		"into the other leg":                   {step(p, 0, 2), step(q, 1, 0)},
		"from the other leg":                   {step(p, 0, 1), step(q, 2, 0)},
		"into the other track of the crossing": {step(p, 0, 1), step(k, 2, 3)},
		"into the other end of that track":     {step(p, 0, 1), step(k, 1, 0)},
		"the first step is turned":             {step(east, 1, 0), step(p, 0, 1)},
		"the last step is turned":              {step(east, 0, 1), step(p, 1, 0)},
		"behind an end that no joint has":      {step(far, 0, 1), step(east, 0, 1)},
		"behind such an end, with zeros":       {step(q, 0, 1), step(west, 0, 1)},
		"two ends that no joint has":           {step(west, 0, 1), step(far, 0, 1)},
		"the last step does not follow":        {step(east, 0, 1), step(p, 0, 2), step(q, 2, 0), step(west, 1, 0)},

		"both tracks of the crossing": {step(k, 0, 1), step(k, 2, 3)},
		"both tracks, the other way":  {step(loop, 1, 0), step(k, 3, 2), step(k, 1, 0), step(p, 1, 0)},
		"around the loop":             {step(loop, 0, 1), step(loop, 2, 0)},
		"around the loop and back":    {step(k, 2, 3), step(loop, 0, 2), step(loop, 1, 0), step(k, 3, 2)},
		"a step twice":                {step(east, 0, 1), step(east, 0, 1)},
		"a step and back":             {step(east, 0, 1), step(east, 1, 0)},
		"the first element again":     {step(east, 0, 1), step(p, 0, 1), step(east, 0, 1)},
		"more steps than ways have":   slices.Repeat([]api.Step{step(far, 0, 1)}, api.MaxSteps+1),
	}
}

// P9.2
func TestValid(t *testing.T) {
	for _, way := range ways() {
		checkValid(t, yard(), way, true)
	}
	for about, way := range notWays() {
		if walk.Valid(yard(), way) {
			t.Errorf("%s is a way", about)
		}
	}
	checkValid(t, small(), []api.Step{step(0, 0, 1)}, true)
	checkValid(t, small(), []api.Step{step(0, 0, 1), step(0, 0, 1)}, false)
}

// P9.2: ways around the ring, up to as many steps as there are elements, and more steps.
func TestValidRound(t *testing.T) {
	for n := range 2 * api.MaxSteps {
		checkValid(t, ring(), round(n), n >= 1 && n <= api.MaxElements)
	}
	checkValid(t, ring(), round(api.MaxElements + 5)[5:], true)
	checkValid(t, ring(), walk.Reverse(round(api.MaxElements)), true)
}

// P9.2: all single steps and all pairs of steps over a part of the yard.
func TestValidPairs(t *testing.T) {
	l := yard()
	var all []api.Step
	for el := p - 1; el <= len(l.Elements); el++ {
		for i := -1; i <= 4; i++ {
			for o := -1; o <= 4; o++ {
				all = append(all, step(el, i, o))
			}
		}
	}
	for _, a := range all {
		checkValid(t, l, []api.Step{a}, isPossible(l, a))
		for _, b := range all {
			checkValid(t, l, []api.Step{a, b}, isWay(l, []api.Step{a, b}))
		}
	}
}

// P9.2: steps that are not ways are reversed, too.
func TestReverse(t *testing.T) {
	checkReverse(t, nil, nil)
	checkReverse(t, []api.Step{}, nil)
	checkReverse(t, []api.Step{step(4, 2, 3)}, []api.Step{step(4, 3, 2)})
	checkReverse(t, []api.Step{step(0, 0, 1), step(1, 0, 2), step(3, 2, 3)}, []api.Step{step(3, 3, 2), step(1, 2, 0), step(0, 1, 0)})
	checkReverse(t, []api.Step{step(-1, 7, 7), step(99, -5, math.MaxInt), step(-1, 7, 7), step(0, 0, 0)},
		[]api.Step{step(0, 0, 0), step(-1, 7, 7), step(99, math.MaxInt, -5), step(-1, 7, 7)})
	long := round(3*api.MaxSteps + 1)
	if back := walk.Reverse(long); len(back) != len(long) || back[0] != step(0, 1, 0) || back[1] != step(api.MaxElements-1, 1, 0) {
		t.Errorf("Reverse of %d steps = %s", len(long), short(back))
	}
}

// P9.3
func TestMeasures(t *testing.T) {
	n, r := api.PtNormal, api.PtReverse
	for _, c := range []struct {
		way      []api.Step
		length   int
		sections []int
		settings []api.Setting
	}{
		{nil, 0, nil, nil},
		{[]api.Step{}, 0, nil, nil},
		{[]api.Step{step(far, 0, 1)}, 1000000, []int{2}, nil},
		{[]api.Step{step(k, 3, 2)}, 700, []int{0}, nil},
		{[]api.Step{step(p, 0, 1)}, 600, []int{0}, []api.Setting{setting(p, n)}},
		{[]api.Step{step(p, 1, 0)}, 600, []int{0}, []api.Setting{setting(p, n)}},
		{[]api.Step{step(p, 0, 2)}, 600, []int{0}, []api.Setting{setting(p, r)}},
		{[]api.Step{step(p, 2, 0)}, 600, []int{0}, []api.Setting{setting(p, r)}},
		// A section that is entered again stays at its first place; settings ascend by element, not by place.
		{[]api.Step{step(east, 0, 1), step(p, 0, 2), step(q, 2, 0), step(west, 0, 1)}, 6250, []int{1, 0, 2}, []api.Setting{setting(q, r), setting(p, r)}},
		{[]api.Step{step(east, 0, 1), step(p, 0, 1), step(k, 0, 1)}, 2300, []int{1, 0}, []api.Setting{setting(p, n)}},
		// What follows is no way.
		{[]api.Step{step(far, 0, 1), step(far, 0, 1), step(east, 0, 1), step(far, 1, 0)}, 3001000, []int{2, 1}, nil},
		{[]api.Step{step(p, 2, 0), step(q, 0, 1), step(p, 0, 1), step(q, 1, 0)}, 2500, []int{0, 1}, []api.Setting{setting(q, n), setting(p, n), setting(p, r)}},
		{[]api.Step{step(p, 0, 1), step(p, 0, 2)}, 1200, []int{0}, []api.Setting{setting(p, n), setting(p, r)}},
		{[]api.Step{step(loop, 0, 2), step(q, 0, 2), step(loop, 1, 0), step(loop, 2, 0)}, 2165, []int{2, 1}, []api.Setting{setting(q, r), setting(loop, n), setting(loop, r)}},
		// A passage that is not possible needs no setting, but its element counts.
		{[]api.Step{step(p, 1, 2), step(east, 0, 5), step(k, 0, 2), step(q, 0, 0)}, 2950, []int{0, 1}, nil},
		{[]api.Step{step(p, 0, 3), step(q, -1, 0), step(q, 1<<32, 1)}, 1900, []int{0, 1}, nil},
		// Elements that do not exist count as nothing.
		{[]api.Step{step(-1, 0, 1), step(7, 0, 1), step(8, 0, 2)}, 0, nil, nil},
		{[]api.Step{step(7, 0, 1), step(p, 2, 0), step(-1, 0, 2), step(west, 0, 1), step(99, 0, 0)}, 4600, []int{0, 2}, []api.Setting{setting(p, r)}},
		{[]api.Step{step(math.MinInt, 0, 1), step(math.MaxInt, 0, 1), step(1<<32+p, 0, 1), step(-p, 0, 1)}, 0, nil, nil},
	} {
		checkMeasures(t, yard(), c.way, c.length, c.sections, c.settings)
	}
	// More steps than ways have are counted, all of them.
	checkMeasures(t, yard(), slices.Repeat([]api.Step{step(far, 0, 1), step(p, 0, 2)}, 5000), 5000*1000600, []int{2, 0}, []api.Setting{setting(p, r)})
	checkMeasures(t, ring(), round(api.MaxElements), 32*1000+31*16, []int{0, 1}, nil)
}

// P9.1 to P9.3: ways, ways that were changed, and any steps, compared with the definitions.
func TestAllRandom(t *testing.T) {
	r := rand.New(rand.NewSource(9))
	seen := map[bool]int{}
	for _, l := range layouts(t, r, 1000) {
		for el := -2; el < len(l.Elements)+2; el++ {
			for side := -2; side < 6; side++ {
				checkFrom(t, l, end(el, side))
			}
		}
		for range 30 {
			way := randomWay(r, l)
			checkSteps(t, l, way)
			for range 1 + r.Intn(2) {
				if len(way) > 0 {
					way = disturb(r, way)
				}
			}
			checkSteps(t, l, way)
			seen[isWay(l, way)]++
		}
		checkSteps(t, l, anySteps(r, l))
	}
	if seen[true] < 1000 || seen[false] < 1000 {
		t.Errorf("lists that are ways, and that are not: %v", seen)
	}
}

// checkFrom compares what is next behind an end, and at it, with the definitions.
func checkFrom(t *testing.T, l api.Layout, e api.End) {
	t.Helper()
	want, ok := joinedTo(l, e)
	for i := -1; i < 5; i++ {
		checkNext(t, l, step(e.El, i, e.Side), want, ok)
	}
	var branches []api.Step
	for _, o := range outsOf(l, e) {
		branches = append(branches, step(e.El, e.Side, o))
	}
	checkBranches(t, l, e, branches)
}

// checkSteps compares what is said of a list of steps with the definitions.
func checkSteps(t *testing.T, l api.Layout, way []api.Step) {
	t.Helper()
	checkValid(t, l, way, isWay(l, way))
	length, sections, settings := measured(l, way)
	checkMeasures(t, l, way, length, sections, settings)
	var back []api.Step
	for i := len(way) - 1; i >= 0; i-- {
		back = append(back, step(way[i].El, way[i].Out, way[i].In))
	}
	checkReverse(t, way, back)
}

// forWays visits ways over many layouts.
func forWays(t *testing.T, seed int64, visit func(l api.Layout, way []api.Step)) {
	t.Helper()
	r := rand.New(rand.NewSource(seed))
	for _, l := range layouts(t, r, 1000) {
		for range 20 {
			way := randomWay(r, l)
			checkValid(t, l, way, true)
			visit(l, way)
		}
	}
	for _, way := range ways() {
		visit(yard(), way)
	}
	for n := range api.MaxElements {
		visit(ring(), round(n+1))
	}
}

// P9.4
func TestWalkReverses(t *testing.T) {
	forWays(t, 94, func(l api.Layout, way []api.Step) {
		back := walk.Reverse(way)
		checkValid(t, l, back, true)
		checkReverse(t, back, way)
		sections := walk.Sections(l, back)
		slices.Sort(sections)
		forth := walk.Sections(l, way)
		slices.Sort(forth)
		if !slices.Equal(sections, forth) {
			t.Errorf("the sections of %v are %v, and reversed %v", way, forth, sections)
		}
		checkMeasures(t, l, back, walk.Length(l, way), walk.Sections(l, back), walk.Settings(l, way))
	})
}

// P9.5
func TestParts(t *testing.T) {
	forWays(t, 95, func(l api.Layout, way []api.Step) {
		for i := range way {
			for j := i + 1; j <= len(way); j++ {
				checkValid(t, l, way[i:j], true)
			}
			if a, b := walk.Length(l, way[:i]), walk.Length(l, way[i:]); a+b != walk.Length(l, way) {
				t.Errorf("%v and %v have the lengths %d and %d, together %d", way[:i], way[i:], a, b, walk.Length(l, way))
			}
		}
	})
}

// P9.6
func TestGoingOn(t *testing.T) {
	seen := map[bool]int{}
	forWays(t, 96, func(l api.Layout, way []api.Step) {
		at, ok := walk.Next(l, way[len(way)-1])
		if !ok {
			for el := range l.Elements {
				checkValid(t, l, append(slices.Clone(way), step(el, 0, 1)), false)
			}
			return
		}
		branches := walk.Branches(l, at)
		if len(branches) == 0 {
			t.Errorf("no branches at %v behind %v", at, way)
		}
		for _, s := range branches {
			checkValid(t, l, append(slices.Clone(way), s), !visits(way, at.El))
			seen[visits(way, at.El)]++
		}
	})
	if seen[true] < 100 || seen[false] < 100 {
		t.Errorf("steps over elements that were in the way, and were not: %v", seen)
	}
}

// P9.7
func TestSettingsLead(t *testing.T) {
	forWays(t, 97, func(l api.Layout, way []api.Step) {
		positions := map[int]int{}
		for _, s := range walk.Settings(l, way) {
			positions[s.El] = s.Pos
		}
		for _, s := range way {
			if o, ok := rail.Out(l.Elements[s.El].Kind, s.In, positions[s.El]); !ok || o != s.Out {
				t.Errorf("with %v, Out from %v is %d, %v", positions, s, o, ok)
			}
		}
	})
}

// 0.1: layouts that are not valid, and numbers far off. What is returned for these layouts is not promised.
func TestExtremes(t *testing.T) {
	numbers := append(farNumbers(), 0, 1, 2, 3, 4)
	for _, n := range numbers {
		l := yard()
		l.Elements = append(l.Elements, api.Element{Kind: n, Length: n, Section: n}, api.Element{Kind: api.ElPoint, Length: math.MaxInt, Section: n})
		l.Joints = append(l.Joints, joint(n, n, 7, n), joint(8, 0, 8, 0), joint(n, 1, n, 0), joint(0, 0, n, n))
		for _, broken := range []api.Layout{l, {}, {Elements: l.Elements}, {Joints: l.Joints}, {Sections: []string{strings.Repeat("x", 99)}}} {
			steps := []api.Step{step(7, 0, 1), step(8, 0, 2), step(8, 0, 1), step(n, n, n)}
			for _, m := range numbers {
				steps = append(steps, step(n, m, 0), step(m, 0, n))
				walk.Branches(broken, end(n, m))
			}
			for _, s := range steps {
				walk.Next(broken, s)
				walk.Valid(broken, []api.Step{s, s})
			}
			walk.Valid(broken, steps)
			walk.Length(broken, steps)
			walk.Sections(broken, steps)
			walk.Settings(broken, steps)
		}
	}
	long := slices.Repeat(anySteps(rand.New(rand.NewSource(1)), yard()), 20000)
	checkValid(t, yard(), long, false)
	length, sections, settings := measured(yard(), long)
	checkMeasures(t, yard(), long, length, sections, settings)
}

// 0.4: arguments stay as they are, also behind their ends, and results share no memory with them or with one another.
func TestArgumentsStay(t *testing.T) {
	l := yard()
	for _, way := range append(ways(), []api.Step{step(p, 2, 0), step(-1, 3, 4), step(q, 0, 1), step(p, 0, 1)}) {
		more := append(slices.Clone(way), step(77, 7, 7), step(78, 8, 8))
		before := slices.Clone(more)
		arg := more[:len(way)]
		for range 2 {
			at, _ := walk.Next(l, arg[0])
			checkSteps(t, l, arg)
			checkFrom(t, l, at)
			back, branches, sections, settings := walk.Reverse(arg), walk.Branches(l, at), walk.Sections(l, arg), walk.Settings(l, arg)
			clear(back)
			clear(branches)
			clear(sections)
			clear(settings)
			if !slices.Equal(more, before) || !reflect.DeepEqual(l, yard()) {
				t.Fatalf("the steps became %v, were %v; the layout became %+v", more, before, l)
			}
		}
	}
}
