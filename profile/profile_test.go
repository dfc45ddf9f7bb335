package profile_test

import (
	"fmt"
	"math"
	"math/rand"
	"slices"
	"testing"

	"signalling/api"
	"signalling/layout"
	"signalling/profile"
)

func seg(from, to, grade, speed int) api.Segment {
	return api.Segment{From: from, To: to, Grade: grade, Speed: speed}
}

func step(el, in, out int) api.Step { return api.Step{El: el, In: in, Out: out} }

func end(el, side int) api.End { return api.End{El: el, Side: side} }

// line is the line of DOC.md.
func line() api.Layout {
	return api.Layout{
		Name:     "line",
		Sections: []string{"a", "b", "c"},
		Elements: []api.Element{
			{Name: "a", Kind: api.ElTrack, Length: 20000, Speed: 3000, Section: 0},
			{Name: "b", Kind: api.ElTrack, Length: 20000, Speed: 3000, Section: 1},
			{Name: "c", Kind: api.ElTrack, Length: 20000, Speed: 3000, Section: 2},
		},
		Joints:  []api.Joint{{A: end(0, 1), B: end(1, 0)}, {A: end(1, 1), B: end(2, 0)}},
		Signals: []api.Signal{{Name: "s1", At: end(0, 1)}, {Name: "s2", At: end(1, 1)}},
	}
}

// The elements of the yard.
const (
	up    = iota // a track that rises from side 0
	down         // a track that falls from side 0
	p            // points that rise from the stem
	q            // points that fall from the stem, as fast on both legs
	k            // a crossing that rises
	j            // a crossing that falls
	long         // the longest, steepest and fastest track
	short        // the shortest and slowest one
	count        // how many there are
)

// yard has all kinds of elements, of which only some are joined.
func yard() api.Layout {
	return api.Layout{
		Name:     "yard",
		Sections: []string{"x", "y"},
		Elements: []api.Element{
			{Name: "up", Kind: api.ElTrack, Length: 1000, Grade: 7, Speed: 2000},
			{Name: "down", Kind: api.ElTrack, Length: 1100, Grade: -4, Speed: 2100, Section: 1},
			{Name: "p", Kind: api.ElPoint, Length: 600, Grade: 3, Speed: 1500, Slow: 400},
			{Name: "q", Kind: api.ElPoint, Length: 650, Grade: -6, Speed: 1600, Slow: 1600},
			{Name: "k", Kind: api.ElCross, Length: 700, Grade: 9, Speed: 1200},
			{Name: "j", Kind: api.ElCross, Length: 750, Grade: -8, Speed: 1250, Section: 1},
			{Name: "long", Kind: api.ElTrack, Length: api.MaxLength, Grade: api.MaxGrade, Speed: api.MaxSpeed},
			{Name: "short", Kind: api.ElTrack, Length: api.MinLength, Grade: -api.MaxGrade, Speed: 100},
		},
		Joints: []api.Joint{{A: end(up, 1), B: end(p, 0)}, {A: end(p, 2), B: end(k, 2)}, {A: end(p, 1), B: end(down, 0)}},
	}
}

// pair is the profile p of the chapter's examples.
func pair() []api.Segment { return []api.Segment{seg(0, 10, 5, 300), seg(10, 30, -5, 200)} }

// hills begins before 0. Its least speed and its least gradient are in the middle, and not in the same segment.
func hills() []api.Segment {
	return []api.Segment{seg(-40, -25, 3, 900), seg(-25, -24, -2, 700), seg(-24, 0, 50, 40), seg(0, 11, -50, 800), seg(11, 20, 0, 10000), seg(20, 60, 1, 850)}
}

// row is a profile of n segments, each of the length 2, of which no two neighbors are alike.
func row(n, from int) []api.Segment {
	var l []api.Segment
	for i := range n {
		l = append(l, seg(from+2*i, from+2*i+2, i%3-1, 10+i%5))
	}
	return l
}

// profiles are some, up to the limits.
func profiles() [][]api.Segment {
	c := api.MaxCoord
	return [][]api.Segment{
		nil, {}, pair(), hills(),
		{seg(0, 1, 0, 1)},
		{seg(-c, c, api.MaxGrade, api.MaxSpeed)},
		{seg(-c, 1-c, -api.MaxGrade, 1), seg(1-c, 0, 7, 7), seg(0, c-1, 7, 7), seg(c-1, c, api.MaxGrade, 2)},
		{seg(c-1, c, 0, 5)}, {seg(-c, 1-c, 0, 5)},
		row(api.MaxSegments, -100), row(api.MaxSegments-1, c-2*api.MaxSegments+2),
	}
}

// notProfiles are lists of segments that are not accepted.
func notProfiles() map[string][]api.Segment {
	c := api.MaxCoord
	return map[string][]api.Segment{
		"the zero segment":              {{}},
		"no length":                     {seg(5, 5, 0, 100)},
		"no length between":             {seg(0, 5, 0, 100), seg(5, 5, 0, 100), seg(5, 9, 0, 100)},
		"no length at the end":          {seg(0, 5, 0, 100), seg(5, 5, 0, 100)},
		"backward":                      {seg(5, 4, 0, 100)},
		"backward between":              {seg(0, 5, 0, 100), seg(5, 3, 0, 100), seg(3, 9, 0, 100)},
		"backward at the end":           {seg(0, 5, 0, 100), seg(5, 3, 0, 100)},
		"a gap":                         {seg(0, 5, 0, 100), seg(6, 9, 0, 100)},
		"a gap at the end":              {seg(0, 5, 0, 100), seg(5, 9, 0, 100), seg(10, 11, 0, 100)},
		"parts twice":                   {seg(0, 5, 0, 100), seg(4, 9, 0, 100)},
		"a segment twice":               {seg(0, 5, 0, 100), seg(0, 5, 0, 100)},
		"out of order":                  {seg(5, 9, 0, 100), seg(0, 5, 0, 100)},
		"too steep":                     {seg(0, 5, api.MaxGrade+1, 100)},
		"too steep a fall":              {seg(0, 5, -api.MaxGrade-1, 100)},
		"too steep at the end":          {seg(0, 5, 0, 100), seg(5, 9, 51, 100)},
		"a fall far too steep":          {seg(0, 5, math.MinInt, 100)},
		"far too steep":                 {seg(0, 5, math.MaxInt, 100)},
		"steep by more than 32 bits":    {seg(0, 5, 1<<32, 100)},
		"no speed":                      {seg(0, 5, 0, 0)},
		"no speed at the end":           {seg(0, 5, 0, 100), seg(5, 9, 0, 0)},
		"a negative speed":              {seg(0, 5, 0, -1)},
		"the least speed of all":        {seg(0, 5, 0, math.MinInt)},
		"too fast":                      {seg(0, 5, 0, api.MaxSpeed+1)},
		"too fast at the beginning":     {seg(0, 5, 0, api.MaxSpeed+1), seg(5, 9, 0, 100)},
		"far too fast":                  {seg(0, 5, 0, math.MaxInt)},
		"fast by more than 32 bits":     {seg(0, 5, 0, 1<<32+100)},
		"before the coordinates":        {seg(-c-1, 0, 0, 100)},
		"beyond the coordinates":        {seg(0, c+1, 0, 100)},
		"beyond the coordinates, later": {seg(0, c, 0, 100), seg(c, c+1, 0, 100)},
		"wholly before them":            {seg(-c-9, -c-5, 0, 100)},
		"wholly beyond them":            {seg(c+5, c+9, 0, 100)},
		"far before them":               {seg(math.MinInt, 0, 0, 100)},
		"far beyond them":               {seg(0, math.MaxInt, 0, 100)},
		"all numbers":                   {seg(math.MinInt, math.MaxInt, 0, 100)},
		"too many segments":             row(api.MaxSegments+1, 0),
		"far too many segments":         row(5*api.MaxSegments, -7),
	}
}

// numbers are coordinates within the profiles and around them, and numbers far off.
func numbers() []int {
	c := api.MaxCoord
	l := []int{math.MinInt, math.MinInt + 1, -1 << 32, -c - 1, -c, 1 - c, c - 1, c, c + 1, 1 << 32, 1<<32 + 5, math.MaxInt - 1, math.MaxInt}
	for n := -41; n <= 61; n += 3 {
		l = append(l, n)
	}
	return append(l, -1, 0, 1, 5, 6, 9, 10, 11, 29, 30, 31)
}

// The following say what the chapter defines, without the package.

func within(n, low, high int) bool { return low <= n && n <= high }

func isProfile(l []api.Segment) bool {
	for i, s := range l {
		if i > 0 && l[i-1].To != s.From {
			return false
		}
		if s.From >= s.To || !within(s.From, -api.MaxCoord, api.MaxCoord) || !within(s.To, -api.MaxCoord, api.MaxCoord) {
			return false
		}
		if !within(s.Grade, -api.MaxGrade, api.MaxGrade) || !within(s.Speed, 1, api.MaxSpeed) {
			return false
		}
	}
	return len(l) <= api.MaxSegments
}

// segmentAt is the segment that contains a coordinate.
func segmentAt(l []api.Segment, x int) (api.Segment, bool) {
	for _, s := range l {
		if isProfile(l) && within(x, s.From, s.To-1) {
			return s, true
		}
	}
	return api.Segment{}, false
}

// leastOf are the least speed and the least gradient between two coordinates.
func leastOf(l []api.Segment, from, to int) (int, int) {
	var speeds, grades []int
	for _, s := range l {
		if isProfile(l) && s.From <= to && s.To >= from {
			speeds, grades = append(speeds, s.Speed), append(grades, s.Grade)
		}
	}
	if len(speeds) == 0 {
		return 0, 0
	}
	return slices.Min(speeds), slices.Min(grades)
}

// cutOf is the part between two coordinates.
func cutOf(l []api.Segment, from, to int) []api.Segment {
	var parts []api.Segment
	for _, s := range l {
		if isProfile(l) && max(s.From, from) < min(s.To, to) {
			parts = append(parts, seg(max(s.From, from), min(s.To, to), s.Grade, s.Speed))
		}
	}
	return parts
}

// limitOf is the profile with a lower speed between two coordinates.
func limitOf(l []api.Segment, from, to, speed int) []api.Segment {
	if !isProfile(l) || speed < 1 {
		return nil
	}
	var parts []api.Segment
	for _, s := range l {
		slow := cutOf([]api.Segment{s}, from, to)
		if len(slow) == 0 {
			parts = append(parts, s)
			continue
		}
		if s.From < from {
			parts = append(parts, seg(s.From, from, s.Grade, s.Speed))
		}
		parts = append(parts, seg(slow[0].From, slow[0].To, s.Grade, min(s.Speed, speed)))
		if to < s.To {
			parts = append(parts, seg(to, s.To, s.Grade, s.Speed))
		}
	}
	if len(parts) > api.MaxSegments {
		return nil
	}
	return parts
}

// joinOf is b behind a, or the error.
func joinOf(a, b []api.Segment) ([]api.Segment, api.Errno) {
	switch {
	case !isProfile(a) || !isProfile(b):
		return nil, api.ErrArg
	case len(a) == 0:
		return b, api.OK
	case len(b) == 0:
		return a, api.OK
	case a[len(a)-1].To != b[0].From:
		return nil, api.ErrConflict
	case len(a)+len(b) > api.MaxSegments:
		return nil, api.ErrLimit
	}
	return append(slices.Clone(a), b...), api.OK
}

// isPassage tells whether a passage over a kind of elements is possible in some position.
func isPassage(kind, in, out int) bool {
	between := func(a, b int) bool { return in == a && out == b || in == b && out == a }
	switch kind {
	case api.ElTrack:
		return between(0, 1)
	case api.ElPoint:
		return between(0, 1) || between(0, 2)
	case api.ElCross:
		return between(0, 1) || between(2, 3)
	}
	return false
}

// profileOf is the profile of a way.
func profileOf(l api.Layout, way []api.Step, origin int) []api.Segment {
	var parts []api.Segment
	for _, s := range way {
		if !within(s.El, 0, len(l.Elements)-1) || !isPassage(l.Elements[s.El].Kind, s.In, s.Out) {
			return nil
		}
		e := l.Elements[s.El]
		part := seg(origin, origin+e.Length, -e.Grade, e.Speed)
		if s.In == 0 || e.Kind == api.ElCross && s.In == 2 {
			part.Grade = e.Grade
		}
		if e.Kind == api.ElPoint && (s.In == 2 || s.Out == 2) {
			part.Speed = e.Slow
		}
		parts, origin = append(parts, part), part.To
	}
	if !isProfile(parts) {
		return nil
	}
	return parts
}

// brief is a list as a message shows it.
func brief[T any](l []T) string {
	if len(l) > 12 {
		return fmt.Sprintf("%v .. %v (%d)", l[:4], l[len(l)-4:], len(l))
	}
	return fmt.Sprint(l)
}

func checkOf(t *testing.T, l api.Layout, way []api.Step, origin int, want []api.Segment) {
	t.Helper()
	if got := profile.Of(l, way, origin); !slices.Equal(got, want) {
		t.Errorf("%s: Of(%s, %d) = %s, want %s", l.Name, brief(way), origin, brief(got), brief(want))
	}
}

func checkValid(t *testing.T, l []api.Segment, want bool) {
	t.Helper()
	if ok := profile.Valid(l); ok != want {
		t.Errorf("Valid(%s) = %v", brief(l), ok)
	}
}

func checkAt(t *testing.T, l []api.Segment, x int, want api.Segment, wantOk bool) {
	t.Helper()
	if s, ok := profile.At(l, x); s != want || ok != wantOk {
		t.Errorf("At(%s, %d) = %v, %v; want %v, %v", brief(l), x, s, ok, want, wantOk)
	}
}

func checkLeast(t *testing.T, l []api.Segment, from, to, speed, grade int) {
	t.Helper()
	if n := profile.Slowest(l, from, to); n != speed {
		t.Errorf("Slowest(%s, %d, %d) = %d, want %d", brief(l), from, to, n, speed)
	}
	if n := profile.Steepest(l, from, to); n != grade {
		t.Errorf("Steepest(%s, %d, %d) = %d, want %d", brief(l), from, to, n, grade)
	}
}

func checkCut(t *testing.T, l []api.Segment, from, to int, want []api.Segment) {
	t.Helper()
	if got := profile.Cut(l, from, to); !slices.Equal(got, want) {
		t.Errorf("Cut(%s, %d, %d) = %s, want %s", brief(l), from, to, brief(got), brief(want))
	}
}

func checkJoin(t *testing.T, a, b, want []api.Segment, wantErr api.Errno) {
	t.Helper()
	if got, e := profile.Join(a, b); e != wantErr || !slices.Equal(got, want) {
		t.Errorf("Join(%s, %s) = %s, %d; want %s, %d", brief(a), brief(b), brief(got), e, brief(want), wantErr)
	}
}

func checkLimit(t *testing.T, l []api.Segment, from, to, speed int, want []api.Segment) {
	t.Helper()
	if got := profile.Limit(l, from, to, speed); !slices.Equal(got, want) {
		t.Errorf("Limit(%s, %d, %d, %d) = %s, want %s", brief(l), from, to, speed, brief(got), brief(want))
	}
}

// P10.1 to P10.7: the examples of the chapter.
func TestExamples(t *testing.T) {
	checkOf(t, line(), []api.Step{step(1, 0, 1)}, 100, []api.Segment{seg(100, 20100, 0, 3000)})
	checkAt(t, pair(), 10, seg(10, 30, -5, 200), true)
	checkLeast(t, pair(), 0, 9, 300, 5)
	checkLeast(t, pair(), 0, 10, 200, -5)
	checkLeast(t, pair(), 10, 10, 200, -5)
	checkCut(t, pair(), 5, 12, []api.Segment{seg(5, 10, 5, 300), seg(10, 12, -5, 200)})
	checkLimit(t, pair(), 5, 20, 250, []api.Segment{seg(0, 5, 5, 300), seg(5, 10, 5, 250), seg(10, 20, -5, 200), seg(20, 30, -5, 200)})
}

// P10.1: the gradient and the speed of each passage, and the length of the element.
func TestOfSingleSteps(t *testing.T) {
	for _, c := range []struct {
		s    api.Step
		want api.Segment
	}{
		{step(up, 0, 1), seg(0, 1000, 7, 2000)},
		{step(up, 1, 0), seg(0, 1000, -7, 2000)},
		{step(down, 0, 1), seg(0, 1100, -4, 2100)},
		{step(down, 1, 0), seg(0, 1100, 4, 2100)},
		{step(p, 0, 1), seg(0, 600, 3, 1500)},
		{step(p, 1, 0), seg(0, 600, -3, 1500)},
		{step(p, 0, 2), seg(0, 600, 3, 400)},
		{step(p, 2, 0), seg(0, 600, -3, 400)},
		{step(q, 0, 1), seg(0, 650, -6, 1600)},
		{step(q, 1, 0), seg(0, 650, 6, 1600)},
		{step(q, 0, 2), seg(0, 650, -6, 1600)},
		{step(q, 2, 0), seg(0, 650, 6, 1600)},
		{step(k, 0, 1), seg(0, 700, 9, 1200)},
		{step(k, 1, 0), seg(0, 700, -9, 1200)},
		{step(k, 2, 3), seg(0, 700, 9, 1200)},
		{step(k, 3, 2), seg(0, 700, -9, 1200)},
		{step(j, 0, 1), seg(0, 750, -8, 1250)},
		{step(j, 1, 0), seg(0, 750, 8, 1250)},
		{step(j, 2, 3), seg(0, 750, -8, 1250)},
		{step(j, 3, 2), seg(0, 750, 8, 1250)},
		{step(long, 0, 1), seg(0, api.MaxLength, api.MaxGrade, api.MaxSpeed)},
		{step(long, 1, 0), seg(0, api.MaxLength, -api.MaxGrade, api.MaxSpeed)},
		{step(short, 0, 1), seg(0, api.MinLength, -api.MaxGrade, 100)},
	} {
		checkOf(t, yard(), []api.Step{c.s}, 0, []api.Segment{c.want})
	}
}

// P10.1
func TestOfWays(t *testing.T) {
	checkOf(t, line(), []api.Step{step(0, 0, 1), step(1, 0, 1), step(2, 0, 1)}, -20000,
		[]api.Segment{seg(-20000, 0, 0, 3000), seg(0, 20000, 0, 3000), seg(20000, 40000, 0, 3000)})
	checkOf(t, yard(), []api.Step{step(up, 0, 1), step(p, 0, 2), step(k, 2, 3)}, -1000,
		[]api.Segment{seg(-1000, 0, 7, 2000), seg(0, 600, 3, 400), seg(600, 1300, 9, 1200)})
	checkOf(t, yard(), []api.Step{step(down, 1, 0), step(p, 1, 0), step(up, 1, 0)}, 7,
		[]api.Segment{seg(7, 1107, 4, 2100), seg(1107, 1707, -3, 1500), seg(1707, 2707, -7, 2000)})
	// Points in both positions, both tracks of a crossing, elements that no joint has, and a step and back.
	checkOf(t, yard(), []api.Step{step(p, 0, 1), step(p, 0, 2), step(p, 2, 0), step(p, 1, 0)}, 0,
		[]api.Segment{seg(0, 600, 3, 1500), seg(600, 1200, 3, 400), seg(1200, 1800, -3, 400), seg(1800, 2400, -3, 1500)})
	checkOf(t, yard(), []api.Step{step(k, 2, 3), step(k, 0, 1), step(j, 3, 2), step(short, 0, 1)}, 1,
		[]api.Segment{seg(1, 701, 9, 1200), seg(701, 1401, 9, 1200), seg(1401, 2151, 8, 1250), seg(2151, 2651, -50, 100)})
	checkOf(t, yard(), []api.Step{step(up, 0, 1), step(up, 1, 0), step(up, 1, 0)}, 0,
		[]api.Segment{seg(0, 1000, 7, 2000), seg(1000, 2000, -7, 2000), seg(2000, 3000, -7, 2000)})
	for _, origin := range numbers() {
		checkOf(t, yard(), nil, origin, nil)
		checkOf(t, yard(), []api.Step{}, origin, nil)
	}
}

// P10.1: elements that do not exist, and passages that are not possible, alone, first, last and between.
func TestOfNotPossible(t *testing.T) {
	bad := []api.Step{
		step(count, 0, 1), step(count+1, 0, 1), step(-1, 0, 1), step(math.MinInt, 0, 1), step(math.MaxInt, 0, 1), step(1<<32, 0, 1), step(-1<<32, 0, 1),
		step(up, 0, 0), step(up, 1, 1), step(up, 0, 2), step(up, 2, 0), step(up, 2, 3), step(up, 0, -1), step(up, -1, 1), step(up, 1<<32, 1),
		step(p, 1, 2), step(p, 2, 1), step(p, 0, 0), step(p, 1, 1), step(p, 2, 2), step(p, 0, 3), step(p, 3, 0), step(p, 2, 3), step(p, 0, 1<<32+1),
		step(k, 0, 2), step(k, 0, 3), step(k, 1, 2), step(k, 1, 3), step(k, 2, 0), step(k, 2, 1), step(k, 3, 0), step(k, 3, 1), step(k, 2, 2), step(k, 4, 5), step(k, 2, 4),
	}
	good := step(up, 0, 1)
	for _, s := range bad {
		for _, way := range [][]api.Step{{s}, {s, good}, {good, s}, {good, s, good}, {good, good, s, s}} {
			checkOf(t, yard(), way, 0, nil)
		}
	}
}

// P10.1: origins near the limits of coordinates and far off, where sums wrap around.
func TestOfOrigins(t *testing.T) {
	c := api.MaxCoord
	two := []api.Step{step(up, 0, 1), step(down, 0, 1)}
	at := func(origin int) []api.Segment {
		return []api.Segment{seg(origin, origin+1000, 7, 2000), seg(origin+1000, origin+2100, -4, 2100)}
	}
	for _, origin := range []int{-c, 1 - c, -2100, -1000, -1, 0, 1, c - 2101, c - 2100} {
		checkOf(t, yard(), two, origin, at(origin))
	}
	for _, origin := range []int{-c - 1, -c - 1000, -c - 2100, -c - 5000, c - 2099, c - 1001, c - 1000, c - 999, c - 1, c, c + 1,
		-1 << 32, 1 << 32, math.MinInt, math.MinInt + 1, math.MaxInt, math.MaxInt - 999, math.MaxInt - 1000, math.MaxInt - 2100} {
		checkOf(t, yard(), two, origin, nil)
	}
}

// P10.1: as many steps as a profile has segments, and more of them.
func TestOfManySteps(t *testing.T) {
	for _, n := range []int{1, api.MaxSegments - 1, api.MaxSegments, api.MaxSegments + 1, 2 * api.MaxSegments, 50000} {
		way := slices.Repeat([]api.Step{step(long, 0, 1)}, n)
		for _, origin := range []int{0, -api.MaxCoord, api.MaxCoord - api.MaxSegments*api.MaxLength} {
			checkOf(t, yard(), way, origin, profileOf(yard(), way, origin))
			if got := profile.Of(yard(), way, origin); len(got) != n && n <= api.MaxSegments || len(got) != 0 && n > api.MaxSegments {
				t.Errorf("Of %d steps from %d on has %d segments", n, origin, len(got))
			}
		}
	}
}

// P10.1: any steps, most of them possible, compared with the definition.
func TestOfRandom(t *testing.T) {
	r := rand.New(rand.NewSource(101))
	ends := [][2]int{{0, 1}, {1, 0}, {0, 2}, {2, 0}, {2, 3}, {3, 2}, {1, 2}, {0, 0}}
	seen := map[bool]int{}
	for range 20000 {
		var way []api.Step
		for range r.Intn(5) {
			e := ends[min(r.Intn(20), r.Intn(20))%len(ends)]
			way = append(way, step(r.Intn(count), e[0], e[1]))
		}
		origin := r.Intn(9000) - 4500
		switch r.Intn(10) {
		case 0:
			origin += api.MaxCoord
		case 1:
			origin -= api.MaxCoord
		}
		want := profileOf(yard(), way, origin)
		checkOf(t, yard(), way, origin, want)
		seen[len(want) > 0]++
	}
	if seen[true] < 2000 || seen[false] < 2000 {
		t.Errorf("ways that have a profile, and that have none: %v", seen)
	}
}

// P10.1: layouts that are not valid promise only that Of returns.
func TestOfAnyLayout(t *testing.T) {
	for _, n := range numbers() {
		l := api.Layout{Elements: []api.Element{{Kind: api.ElTrack, Length: n, Grade: n, Speed: n}, {Kind: n}}}
		profile.Of(l, []api.Step{step(0, 0, 1), step(1, 0, 1), step(0, 1, 0)}, n)
		profile.Of(api.Layout{}, []api.Step{step(n, n, n)}, n)
	}
}

// The layouts of these tests are valid.
func TestLayouts(t *testing.T) {
	for _, l := range []api.Layout{line(), yard()} {
		if e := layout.Check(l); e != api.OK {
			t.Errorf("%s: Check = %d", l.Name, e)
		}
	}
}

// P10.2
func TestValid(t *testing.T) {
	for _, l := range profiles() {
		checkValid(t, l, true)
	}
	for about, l := range notProfiles() {
		if profile.Valid(l) {
			t.Errorf("%s is a profile", about)
		}
	}
}

// P10.2: a segment that is not as it must be, at each place of a profile.
func TestValidEverywhere(t *testing.T) {
	for i := range hills() {
		for about, spoil := range map[string]func(s *api.Segment){
			"From below":   func(s *api.Segment) { s.From-- },
			"From above":   func(s *api.Segment) { s.From++ },
			"To below":     func(s *api.Segment) { s.To-- },
			"To above":     func(s *api.Segment) { s.To++ },
			"exchanged":    func(s *api.Segment) { s.From, s.To = s.To, s.From },
			"steep":        func(s *api.Segment) { s.Grade = api.MaxGrade + 1 },
			"steeply down": func(s *api.Segment) { s.Grade = -api.MaxGrade - 1 },
			"slow":         func(s *api.Segment) { s.Speed = 0 },
			"fast":         func(s *api.Segment) { s.Speed = api.MaxSpeed + 1 },
		} {
			l := hills()
			spoil(&l[i])
			if ok := profile.Valid(l); ok != isProfile(l) {
				t.Errorf("Valid = %v with the segment %d %s: %v", ok, i, about, l)
			}
		}
		if l := slices.Delete(hills(), i, i+1); profile.Valid(l) != (i == 0 || i == len(l)) {
			t.Errorf("Valid = %v without the segment %d", profile.Valid(l), i)
		}
	}
}

// P10.2: of lists that are not profiles there is nothing, wherever one looks.
func TestNotProfiles(t *testing.T) {
	for about, l := range notProfiles() {
		for _, from := range numbers() {
			if s, ok := profile.At(l, from); ok || s != (api.Segment{}) {
				t.Errorf("%s: At(%d) = %v, %v", about, from, s, ok)
			}
			for _, to := range numbers() {
				if n := profile.Slowest(l, from, to); n != 0 {
					t.Errorf("%s: Slowest(%d, %d) = %d", about, from, to, n)
				}
				if n := profile.Steepest(l, from, to); n != 0 {
					t.Errorf("%s: Steepest(%d, %d) = %d", about, from, to, n)
				}
				if got := profile.Cut(l, from, to); len(got) != 0 {
					t.Errorf("%s: Cut(%d, %d) = %s", about, from, to, brief(got))
				}
				for _, speed := range []int{0, 1, 50, math.MaxInt} {
					if got := profile.Limit(l, from, to, speed); len(got) != 0 {
						t.Errorf("%s: Limit(%d, %d, %d) = %s", about, from, to, speed, brief(got))
					}
				}
			}
		}
	}
}

// P10.2, P10.4: where the least gradient is not 0, nothing is told from a profile that has it.
func TestNotProfilesSteep(t *testing.T) {
	l := append(hills(), seg(61, 62, -3, 5))
	checkLeast(t, l, -40, 61, 0, 0)
	checkLeast(t, l[:6], -40, 61, 40, -50)
}

// P10.3
func TestAt(t *testing.T) {
	l := hills()
	for _, c := range []struct {
		x, want int
	}{
		{-40, 0}, {-39, 0}, {-26, 0}, {-25, 1}, {-24, 2}, {-1, 2}, {0, 3}, {1, 3}, {10, 3}, {11, 4}, {19, 4}, {20, 5}, {59, 5},
	} {
		checkAt(t, l, c.x, l[c.want], true)
	}
	for _, x := range []int{-41, -42, 60, 61, api.MaxCoord, -api.MaxCoord, 1 << 32, -1 << 32, math.MinInt, math.MaxInt} {
		checkAt(t, l, x, api.Segment{}, false)
	}
	for _, x := range numbers() {
		checkAt(t, nil, x, api.Segment{}, false)
	}
	whole := seg(-api.MaxCoord, api.MaxCoord, 1, 2)
	checkAt(t, []api.Segment{whole}, -api.MaxCoord, whole, true)
	checkAt(t, []api.Segment{whole}, api.MaxCoord-1, whole, true)
	checkAt(t, []api.Segment{whole}, api.MaxCoord, api.Segment{}, false)
}

// P10.4: the ends of a segment count, both of them; the coordinates may be in any order.
func TestLeast(t *testing.T) {
	for _, c := range [][4]int{
		{-40, 60, 40, -50}, {math.MinInt, math.MaxInt, 40, -50},
		{-40, -40, 900, 3}, {-41, -40, 900, 3}, {-30, -26, 900, 3}, {-30, -25, 700, -2}, {-25, -25, 700, -2},
		{-24, -24, 40, -2}, {-23, -1, 40, 50}, {-23, 0, 40, -50}, {0, 0, 40, -50}, {0, 5, 40, -50}, {1, 5, 800, -50},
		{11, 11, 800, -50}, {12, 19, 10000, 0}, {12, 20, 850, 0}, {20, 20, 850, 0}, {21, 99, 850, 1}, {60, 60, 850, 1}, {60, math.MaxInt, 850, 1},
		{math.MinInt, -40, 900, 3}, {math.MinInt, -41, 0, 0}, {-99, -41, 0, 0}, {61, 61, 0, 0}, {61, math.MaxInt, 0, 0},
		// The first coordinate is the greater one: only a segment that contains both of them counts.
		{-26, -39, 900, 3}, {-25, -40, 900, 3}, {-24, -40, 0, 0}, {-24, -25, 700, -2}, {10, 2, 800, -50}, {11, 0, 800, -50}, {12, 0, 0, 0}, {5, -5, 0, 0},
		{59, 21, 850, 1}, {60, 20, 850, 1}, {61, 21, 0, 0}, {math.MaxInt, math.MinInt, 0, 0}, {99, -99, 0, 0},
	} {
		checkLeast(t, hills(), c[0], c[1], c[2], c[3])
	}
	checkLeast(t, nil, math.MinInt, math.MaxInt, 0, 0)
	// The least one may be the first one, the last one, or a positive gradient.
	checkLeast(t, []api.Segment{seg(0, 1, 4, 9), seg(1, 2, 5, 8), seg(2, 3, 6, 7)}, 0, 3, 7, 4)
	checkLeast(t, []api.Segment{seg(0, 1, 6, 7), seg(1, 2, 5, 8), seg(2, 3, 4, 9)}, 0, 3, 7, 4)
}

// P10.5
func TestCut(t *testing.T) {
	for _, c := range []struct {
		from, to int
		want     []api.Segment
	}{
		{-40, 60, hills()}, {-41, 61, hills()}, {math.MinInt, math.MaxInt, hills()},
		{-25, 0, hills()[1:3]},
		{-26, 1, []api.Segment{seg(-26, -25, 3, 900), seg(-25, -24, -2, 700), seg(-24, 0, 50, 40), seg(0, 1, -50, 800)}},
		{2, 9, []api.Segment{seg(2, 9, -50, 800)}},
		{0, 9, []api.Segment{seg(0, 9, -50, 800)}},
		{2, 11, []api.Segment{seg(2, 11, -50, 800)}},
		{0, 11, hills()[3:4]},
		{10, 11, []api.Segment{seg(10, 11, -50, 800)}},
		{10, 12, []api.Segment{seg(10, 11, -50, 800), seg(11, 12, 0, 10000)}},
		{math.MinInt, -39, []api.Segment{seg(-40, -39, 3, 900)}},
		{59, math.MaxInt, []api.Segment{seg(59, 60, 1, 850)}},
		{math.MinInt, -40, nil}, {math.MinInt, -41, nil}, {60, math.MaxInt, nil}, {61, 99, nil},
		{5, 5, nil}, {11, 11, nil}, {0, 0, nil}, {-40, -40, nil}, {60, 60, nil},
		{9, 2, nil}, {12, 10, nil}, {60, -40, nil}, {math.MaxInt, math.MinInt, nil},
	} {
		checkCut(t, hills(), c.from, c.to, c.want)
	}
	checkCut(t, nil, math.MinInt, math.MaxInt, nil)
	checkCut(t, row(api.MaxSegments, 0), math.MinInt, math.MaxInt, row(api.MaxSegments, 0))
	// Neighbors that are alike stay apart.
	alike := []api.Segment{seg(0, 5, 1, 100), seg(5, 9, 1, 100)}
	checkCut(t, alike, 1, 8, []api.Segment{seg(1, 5, 1, 100), seg(5, 8, 1, 100)})
}

// P10.6
func TestJoin(t *testing.T) {
	l := hills()
	for i := range len(l) + 1 {
		checkJoin(t, l[:i], l[i:], l, api.OK)
	}
	checkJoin(t, nil, nil, nil, api.OK)
	checkJoin(t, []api.Segment{}, pair(), pair(), api.OK)
	checkJoin(t, pair(), nil, pair(), api.OK)
	// Neighbors that are alike stay apart.
	checkJoin(t, []api.Segment{seg(0, 5, 1, 100)}, []api.Segment{seg(5, 9, 1, 100)}, []api.Segment{seg(0, 5, 1, 100), seg(5, 9, 1, 100)}, api.OK)

	checkJoin(t, pair(), pair(), nil, api.ErrConflict)
	checkJoin(t, pair()[1:], pair()[:1], nil, api.ErrConflict)
	checkJoin(t, pair(), []api.Segment{seg(29, 40, 0, 5)}, nil, api.ErrConflict)
	checkJoin(t, pair(), []api.Segment{seg(31, 40, 0, 5)}, nil, api.ErrConflict)
	checkJoin(t, pair(), []api.Segment{seg(0, 40, 0, 5)}, nil, api.ErrConflict)
	checkJoin(t, pair(), []api.Segment{seg(10, 30, 0, 5), seg(30, 40, 0, 5)}, nil, api.ErrConflict)
	for _, n := range []int{0, 1, 2, api.MaxSegments / 2, api.MaxSegments - 1, api.MaxSegments} {
		a, b := row(api.MaxSegments, 0)[:n], row(api.MaxSegments, 0)[n:]
		checkJoin(t, a, b, row(api.MaxSegments, 0), api.OK)
		if n == 0 || n == api.MaxSegments {
			continue
		}
		more := append(slices.Clone(b), seg(2*api.MaxSegments, 2*api.MaxSegments+1, 0, 5))
		checkJoin(t, a, more, nil, api.ErrLimit)
	}
	checkJoin(t, row(api.MaxSegments, 0), row(api.MaxSegments, 2*api.MaxSegments), nil, api.ErrLimit)
	checkJoin(t, row(api.MaxSegments, 0), []api.Segment{seg(2*api.MaxSegments, api.MaxCoord, 0, 5)}, nil, api.ErrLimit)
	// What does not follow is the error before there being too many.
	checkJoin(t, row(api.MaxSegments, 0), row(api.MaxSegments, 0), nil, api.ErrConflict)
	checkJoin(t, row(api.MaxSegments, 0), []api.Segment{seg(2*api.MaxSegments+1, 5000, 0, 5)}, nil, api.ErrConflict)
}

// P10.6: what is not a profile is the first error, in front and behind, also beside an empty list.
func TestJoinNotProfiles(t *testing.T) {
	for _, bad := range notProfiles() {
		beside := append(profiles(), bad, []api.Segment{seg(bad[len(bad)-1].To, 100, 0, 5)}, []api.Segment{seg(-100, bad[0].From, 0, 5)})
		for _, l := range beside {
			checkJoin(t, bad, l, nil, api.ErrArg)
			checkJoin(t, l, bad, nil, api.ErrArg)
		}
	}
}

// P10.7
func TestLimit(t *testing.T) {
	whole := []api.Segment{seg(0, 100, 7, 500)}
	for _, c := range []struct {
		l               []api.Segment
		from, to, speed int
		want            []api.Segment
	}{
		{whole, 0, 100, 80, []api.Segment{seg(0, 100, 7, 80)}},
		{whole, -5, 105, 80, []api.Segment{seg(0, 100, 7, 80)}},
		{whole, math.MinInt, math.MaxInt, 80, []api.Segment{seg(0, 100, 7, 80)}},
		{whole, 0, 40, 80, []api.Segment{seg(0, 40, 7, 80), seg(40, 100, 7, 500)}},
		{whole, -1, 40, 80, []api.Segment{seg(0, 40, 7, 80), seg(40, 100, 7, 500)}},
		{whole, 40, 100, 80, []api.Segment{seg(0, 40, 7, 500), seg(40, 100, 7, 80)}},
		{whole, 40, 101, 80, []api.Segment{seg(0, 40, 7, 500), seg(40, 100, 7, 80)}},
		{whole, 40, 60, 80, []api.Segment{seg(0, 40, 7, 500), seg(40, 60, 7, 80), seg(60, 100, 7, 500)}},
		{whole, 1, 99, 80, []api.Segment{seg(0, 1, 7, 500), seg(1, 99, 7, 80), seg(99, 100, 7, 500)}},
		{whole, math.MinInt, 1, 1, []api.Segment{seg(0, 1, 7, 1), seg(1, 100, 7, 500)}},
		{whole, 99, math.MaxInt, 1, []api.Segment{seg(0, 99, 7, 500), seg(99, 100, 7, 1)}},
		// A speed that is not lower divides the segment as well.
		{whole, 40, 60, 500, []api.Segment{seg(0, 40, 7, 500), seg(40, 60, 7, 500), seg(60, 100, 7, 500)}},
		{whole, 40, 60, 501, []api.Segment{seg(0, 40, 7, 500), seg(40, 60, 7, 500), seg(60, 100, 7, 500)}},
		{whole, 40, 60, math.MaxInt, []api.Segment{seg(0, 40, 7, 500), seg(40, 60, 7, 500), seg(60, 100, 7, 500)}},
		{whole, 40, 60, 499, []api.Segment{seg(0, 40, 7, 500), seg(40, 60, 7, 499), seg(60, 100, 7, 500)}},
		// Nothing is between the coordinates.
		{whole, 40, 40, 80, whole}, {whole, 0, 0, 80, whole}, {whole, 100, 100, 80, whole}, {whole, 60, 40, 80, whole}, {whole, 100, 0, 80, whole},
		{whole, -9, 0, 80, whole}, {whole, 100, 200, 80, whole}, {whole, -9, -5, 80, whole}, {whole, 105, 200, 80, whole},
		{whole, math.MaxInt, math.MinInt, 80, whole}, {nil, 0, 100, 80, nil},
		// The speed is below 1.
		{whole, 40, 60, 0, nil}, {whole, 40, 60, -1, nil}, {whole, 40, 60, math.MinInt, nil}, {whole, 40, 40, 0, nil}, {whole, 200, 300, 0, nil}, {nil, 0, 1, 0, nil},
		// Of several segments, some have a part between the coordinates.
		{hills(), -25, 11, 100, slices.Concat(hills()[:1], []api.Segment{seg(-25, -24, -2, 100), seg(-24, 0, 50, 40), seg(0, 11, -50, 100)}, hills()[4:])},
		{hills(), -26, 12, 750, []api.Segment{seg(-40, -26, 3, 900), seg(-26, -25, 3, 750), seg(-25, -24, -2, 700), seg(-24, 0, 50, 40),
			seg(0, 11, -50, 750), seg(11, 12, 0, 750), seg(12, 20, 0, 10000), seg(20, 60, 1, 850)}},
		{hills(), -24, -23, 900, slices.Concat(hills()[:2], []api.Segment{seg(-24, -23, 50, 40), seg(-23, 0, 50, 40)}, hills()[3:])},
	} {
		checkLimit(t, c.l, c.from, c.to, c.speed, c.want)
	}
}

// P10.7: neighbors that are alike, or become so, are not merged.
func TestLimitNeighbors(t *testing.T) {
	alike := []api.Segment{seg(0, 5, 1, 100), seg(5, 9, 1, 100), seg(9, 12, 1, 90)}
	checkLimit(t, alike, 0, 9, 100, alike)
	checkLimit(t, alike, 20, 30, 50, alike)
	checkLimit(t, alike, 0, 12, 50, []api.Segment{seg(0, 5, 1, 50), seg(5, 9, 1, 50), seg(9, 12, 1, 50)})
	checkLimit(t, alike, 4, 9, 90, []api.Segment{seg(0, 4, 1, 100), seg(4, 5, 1, 90), seg(5, 9, 1, 90), seg(9, 12, 1, 90)})
}

// P10.7: as many segments as a profile has, and one or two more.
func TestLimitSegments(t *testing.T) {
	for n := api.MaxSegments - 3; n <= api.MaxSegments; n++ {
		l := append(row(n-1, 0), seg(2*n-2, 2*n+2, 0, 50))
		last := 2*n - 2
		for more, between := range [][2]int{{last, last + 4}, {last, last + 3}, {last + 1, last + 3}} {
			want := limitOf(l, between[0], between[1], 20)
			checkLimit(t, l, between[0], between[1], 20, want)
			if fits := n+more <= api.MaxSegments; fits != (len(want) == n+more) || !fits && len(want) > 0 {
				t.Errorf("%d segments and %d more become %d", n, more, len(want))
			}
		}
		// One more at both ends of the range.
		checkLimit(t, l, 1, last+1, 20, limitOf(l, 1, last+1, 20))
		checkLimit(t, l, -5, 9999, 3, limitOf(l, -5, 9999, 3))
	}
}

// randomProfile has a few segments, most of them short.
func randomProfile(r *rand.Rand) []api.Segment {
	var l []api.Segment
	at := r.Intn(40) - 30
	for range r.Intn(7) {
		length := 1 + r.Intn(8)
		l = append(l, seg(at, at+length, r.Intn(101)-50, 1+r.Intn(20)))
		at += length
	}
	return l
}

// disturb changes one thing of a list of segments at random; what it becomes often is no profile.
func disturb(r *rand.Rand, l []api.Segment) []api.Segment {
	if len(l) == 0 {
		return l
	}
	i, far := r.Intn(len(l)), []int{-1, 0, api.MaxGrade, api.MaxSpeed, api.MaxSpeed + 1, -api.MaxGrade - 1, math.MinInt, math.MaxInt}
	switch r.Intn(6) {
	case 0:
		l[i].From += r.Intn(3) - 1
	case 1:
		l[i].To += r.Intn(3) - 1
	case 2:
		l[i].Grade = far[r.Intn(len(far))]
	case 3:
		l[i].Speed = far[r.Intn(len(far))]
	case 4:
		l = slices.Delete(l, i, i+1)
	case 5:
		l[i], l[0] = l[0], l[i]
	}
	return l
}

// checkAll compares all that is said of a list with the definitions.
func checkAll(t *testing.T, l []api.Segment, from, to, speed int) {
	t.Helper()
	checkValid(t, l, isProfile(l))
	s, ok := segmentAt(l, from)
	checkAt(t, l, from, s, ok)
	slow, steep := leastOf(l, from, to)
	checkLeast(t, l, from, to, slow, steep)
	checkCut(t, l, from, to, cutOf(l, from, to))
	checkLimit(t, l, from, to, speed, limitOf(l, from, to, speed))
}

// P10.2 to P10.7: random lists, compared with the definitions.
func TestAllRandom(t *testing.T) {
	r := rand.New(rand.NewSource(10))
	seen := map[bool]int{}
	for i := range 20000 {
		l := randomProfile(r)
		if i%2 == 0 {
			l = disturb(r, l)
		}
		for range 5 {
			checkAll(t, l, r.Intn(60)-35, r.Intn(60)-35, r.Intn(22)-1)
		}
		other := randomProfile(r)
		if len(l) > 0 && len(other) > 0 && r.Intn(3) > 0 {
			shift := l[len(l)-1].To - other[0].From
			for i := range other {
				other[i].From, other[i].To = other[i].From+shift, other[i].To+shift
			}
		}
		joined, e := joinOf(l, other)
		checkJoin(t, l, other, joined, e)
		seen[isProfile(l)]++
	}
	if seen[true] < 2000 || seen[false] < 2000 {
		t.Errorf("lists that are profiles, and that are not: %v", seen)
	}
}

// P10.3 to P10.7: coordinates everywhere, also far outside of all profiles.
func TestAllFar(t *testing.T) {
	speeds := []int{math.MinInt, 0, 1, 11, 12, api.MaxSpeed, math.MaxInt}
	for _, l := range profiles() {
		for i, from := range numbers() {
			for j, to := range numbers() {
				checkAll(t, l, from, to, speeds[(i+j)%len(speeds)])
			}
		}
	}
}

// someProfiles are those written out here, and random ones.
func someProfiles(seed int64) [][]api.Segment {
	r := rand.New(rand.NewSource(seed))
	l := profiles()
	for range 1000 {
		l = append(l, randomProfile(r))
	}
	return l
}

// isEnd tells whether a coordinate is not in the midst of a segment.
func isEnd(l []api.Segment, x int) bool {
	return !slices.ContainsFunc(l, func(s api.Segment) bool { return s.From < x && x < s.To })
}

// P10.8
func TestProfileCuts(t *testing.T) {
	for _, l := range someProfiles(108) {
		for _, x := range numbers() {
			before, behind := profile.Cut(l, -api.MaxCoord, x), profile.Cut(l, x, api.MaxCoord)
			checkValid(t, before, true)
			checkValid(t, behind, true)
			joined, e := profile.Join(before, behind)
			if len(l) == api.MaxSegments && !isEnd(l, x) {
				if e != api.ErrLimit || len(joined) != 0 {
					t.Errorf("the parts of %s before and from %d on join to %s, %d", brief(l), x, brief(joined), e)
				}
				continue
			}
			if e != api.OK || isEnd(l, x) != slices.Equal(joined, l) {
				t.Errorf("the parts of %s before and from %d on join to %s, %d", brief(l), x, brief(joined), e)
			}
			checkSame(t, l, joined)
		}
	}
}

// checkSame compares the gradients and speeds of two profiles at many coordinates.
func checkSame(t *testing.T, a, b []api.Segment) {
	t.Helper()
	for _, x := range numbers() {
		s, ok := profile.At(a, x)
		other, otherOk := profile.At(b, x)
		if ok != otherOk || s.Grade != other.Grade || s.Speed != other.Speed {
			t.Errorf("at %d, %s has %v, %v, and %s has %v, %v", x, brief(a), s, ok, brief(b), other, otherOk)
		}
	}
}

// P10.9
func TestSlowestOfParts(t *testing.T) {
	r := rand.New(rand.NewSource(109))
	for _, l := range someProfiles(1091) {
		for range 20 {
			from, to := r.Intn(60)-35, r.Intn(60)-35
			partFrom, partTo := from+r.Intn(5), to-r.Intn(5)
			part, all := profile.Slowest(l, partFrom, partTo), profile.Slowest(l, from, to)
			if part != 0 && (part < all || all == 0) {
				t.Errorf("%s: Slowest is %d from %d to %d, and %d from %d to %d", brief(l), part, partFrom, partTo, all, from, to)
			}
			if cut := profile.Cut(l, from, to); len(cut) > 0 && profile.Slowest(cut, from, to) < all {
				t.Errorf("%s: Slowest(%d, %d) is %d, and less of the part there", brief(l), from, to, all)
			}
		}
	}
}

// P10.9
func TestLimitLowers(t *testing.T) {
	r := rand.New(rand.NewSource(1092))
	for _, l := range someProfiles(1093) {
		for range 5 {
			from, to, speed := r.Intn(60)-35, r.Intn(60)-35, 1+r.Intn(20)
			limited := profile.Limit(l, from, to, speed)
			if len(limited) == 0 && len(l) >= api.MaxSegments-1 {
				continue // there would be too many segments
			}
			checkLimit(t, limited, from, to, speed, limited)
			for _, x := range numbers() {
				s, ok := profile.At(l, x)
				slow, slowOk := profile.At(limited, x)
				want := s.Speed
				if ok && from <= x && x < to {
					want = min(want, speed)
				}
				if ok != slowOk || slow.Grade != s.Grade || slow.Speed != want {
					t.Errorf("%s: limited to %d from %d to %d, at %d it has %v instead of %v", brief(l), speed, from, to, x, slow, s)
				}
			}
		}
	}
}

// General rule 0.4: arguments are not changed, not even behind their ends, and results share no memory with them.
func TestNewMemory(t *testing.T) {
	spare := append(hills(), seg(77, 78, 7, 7), seg(78, 79, 8, 8), seg(79, 80, 9, 9))
	l := spare[:6]
	whole := slices.Clone(spare)
	joinedFront, _ := profile.Join(l, nil)
	joinedBack, _ := profile.Join(nil, l)
	joined, e := profile.Join(l[:2], l[2:])
	further, _ := profile.Join(l, []api.Segment{seg(60, 61, 1, 1)})
	if e != api.OK || len(further) != 7 {
		t.Errorf("Join = %d, %s", e, brief(further))
	}
	for _, result := range [][]api.Segment{
		joinedFront, joinedBack, joined, further, profile.Cut(l, -99, 99), profile.Cut(l, -25, 11), profile.Cut(l, -30, 15),
		profile.Limit(l, 5, 12, 3), profile.Limit(l, 80, 90, 3), profile.Limit(l, -99, 99, 3), profile.Limit(l, 5, 5, 3),
	} {
		for i := range result {
			result[i] = api.Segment{}
		}
		_ = append(result, api.Segment{})
	}
	if !slices.Equal(spare, whole) {
		t.Errorf("the argument became %v", spare)
	}
	checkJoin(t, l[:1], []api.Segment{seg(-25, 9, 1, 1)}, []api.Segment{l[0], seg(-25, 9, 1, 1)}, api.OK)
	if !slices.Equal(spare, whole) {
		t.Errorf("the argument became %v by Join", spare)
	}
	y, way := yard(), []api.Step{step(up, 0, 1), step(p, 0, 2)}
	first := profile.Of(y, way, 0)
	first[0] = api.Segment{}
	checkOf(t, y, way, 0, profileOf(yard(), []api.Step{step(up, 0, 1), step(p, 0, 2)}, 0))
}
