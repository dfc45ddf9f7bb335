package layout_test

import (
	"fmt"
	"math"
	"math/rand"
	"reflect"
	"slices"
	"strings"
	"testing"

	"signalling/api"
	"signalling/layout"
)

// line is the line of DOC.md.
func line() api.Layout {
	return api.Layout{
		Name:     "line",
		Sections: []string{"x", "y", "z"},
		Elements: []api.Element{
			{Name: "a", Kind: api.ElTrack, Length: 20000, Speed: 3000, Section: 0},
			{Name: "b", Kind: api.ElTrack, Length: 20000, Speed: 3000, Section: 1},
			{Name: "c", Kind: api.ElTrack, Length: 20000, Speed: 3000, Section: 2},
		},
		Joints: []api.Joint{
			{A: api.End{El: 0, Side: 1}, B: api.End{El: 1, Side: 0}},
			{A: api.End{El: 1, Side: 1}, B: api.End{El: 2, Side: 0}},
		},
		Signals: []api.Signal{
			{Name: "s1", At: api.End{El: 0, Side: 1}},
			{Name: "s2", At: api.End{El: 1, Side: 1}},
		},
	}
}

// yard has all kinds of elements, a joint written from behind, and balises.
func yard() api.Layout {
	return api.Layout{
		Name:     "yard",
		Sections: []string{"w", "x", "y"},
		Elements: []api.Element{
			{Name: "in", Kind: api.ElTrack, Length: 1000, Grade: 10, Speed: 2000, Section: 0},
			{Name: "p", Kind: api.ElPoint, Length: 600, Speed: 2000, Slow: 1000, Section: 1},
			{Name: "k", Kind: api.ElCross, Length: 700, Grade: -10, Speed: 1500, Section: 1},
			{Name: "out", Kind: api.ElTrack, Length: 4000, Speed: 3000, Section: 2},
		},
		Joints: []api.Joint{
			{A: api.End{El: 1, Side: 0}, B: api.End{El: 0, Side: 1}},
			{A: api.End{El: 1, Side: 2}, B: api.End{El: 2, Side: 3}},
			{A: api.End{El: 3, Side: 0}, B: api.End{El: 1, Side: 1}},
		},
		Signals: []api.Signal{
			{Name: "s", At: api.End{El: 0, Side: 1}, Overlap: 500},
			{Name: "t", At: api.End{El: 3, Side: 0}},
			{Name: "u", At: api.End{El: 1, Side: 1}},
		},
		Balises: []api.Balise{{Id: 7, El: 0, Offset: 500}, {Id: 3, El: 2, Offset: 0}, {Id: 9, El: 1, Offset: 600}},
	}
}

// broad is valid and as large as the limits permit: a line of tracks, of which some are cut by signals.
func broad() api.Layout {
	l := api.Layout{Name: "broad"}
	for i := range api.MaxSections {
		l.Sections = append(l.Sections, fmt.Sprintf("t%d", i))
	}
	for i := range api.MaxElements {
		l.Elements = append(l.Elements, api.Element{
			Name: fmt.Sprintf("e%d", i), Kind: api.ElTrack, Length: 1000, Speed: 2000, Section: min(i, api.MaxSections-1),
		})
		if i > 0 {
			l.Joints = append(l.Joints, api.Joint{A: api.End{El: i - 1, Side: 1}, B: api.End{El: i}})
		}
	}
	for i := range api.MaxSignals {
		l.Signals = append(l.Signals, api.Signal{Name: fmt.Sprintf("s%d", i), At: api.End{El: i, Side: 1}})
	}
	for i := range api.MaxBalises {
		l.Balises = append(l.Balises, api.Balise{Id: i + 1, El: i, Offset: i})
	}
	return l
}

// clone is a layout with lists of its own.
func clone(l api.Layout) api.Layout {
	l.Sections = slices.Clone(l.Sections)
	l.Elements = slices.Clone(l.Elements)
	l.Joints = slices.Clone(l.Joints)
	l.Signals = slices.Clone(l.Signals)
	l.Balises = slices.Clone(l.Balises)
	return l
}

func checkCheck(t *testing.T, about string, l api.Layout, want api.Errno) {
	t.Helper()
	if e := layout.Check(l); e != want {
		t.Errorf("%s: Check is %d, want %d", about, e, want)
	}
}

func checkJoined(t *testing.T, l api.Layout, e, want api.End, wantOk bool) {
	t.Helper()
	if f, ok := layout.Joined(l, e); f != want || ok != wantOk {
		t.Errorf("Joined(%+v, %v) = %v, %v; want %v, %v", l.Joints, e, f, ok, want, wantOk)
	}
}

func checkSignal(t *testing.T, l api.Layout, e api.End, want int) {
	t.Helper()
	if s := layout.Signal(l, e); s != want {
		t.Errorf("Signal(%+v, %v) = %d, want %d", l.Signals, e, s, want)
	}
}

func checkMembers(t *testing.T, l api.Layout, section int, want []int) {
	t.Helper()
	if m := layout.Members(l, section); !slices.Equal(m, want) {
		t.Errorf("Members(%+v, %d) = %d, want %d", l, section, m, want)
	}
}

func checkPoints(t *testing.T, l api.Layout, want []int) {
	t.Helper()
	if p := layout.Points(l); !slices.Equal(p, want) {
		t.Errorf("Points(%+v) = %d, want %d", l.Elements, p, want)
	}
}

func checkElement(t *testing.T, l api.Layout, name string, want int) {
	t.Helper()
	if el := layout.Element(l, name); el != want {
		t.Errorf("Element(%+v, %q) = %d, want %d", l.Elements, name, el, want)
	}
}

func checkSection(t *testing.T, l api.Layout, el, want int) {
	t.Helper()
	if s := layout.Section(l, el); s != want {
		t.Errorf("Section(%+v, %d) = %d, want %d", l.Elements, el, s, want)
	}
}

// A change makes another layout from the yard.
type change func(l *api.Layout)

// A violation is a change of the yard after which the condition of this number is the first one that it does not meet.
type violation struct {
	about     string
	condition int
	change    change
}

// errors of the conditions, from 1 on.
func errorOf(condition int) api.Errno {
	return []api.Errno{
		api.OK, api.ErrLimit, api.ErrName, api.ErrDuplicate, api.ErrArg, api.ErrArg, api.ErrArg,
		api.ErrDuplicate, api.ErrArg, api.ErrDuplicate, api.ErrUnsafe, api.ErrArg, api.ErrDuplicate,
	}[condition]
}

func violations() []violation {
	end := func(el, side int) api.End { return api.End{El: el, Side: side} }
	joint := func(a, b api.End) change {
		return func(l *api.Layout) { l.Joints = append(l.Joints, api.Joint{A: a, B: b}) }
	}
	signal := func(at api.End, overlap int) change {
		return func(l *api.Layout) { l.Signals = append(l.Signals, api.Signal{Name: "v", At: at, Overlap: overlap}) }
	}
	balise := func(id, el, offset int) change {
		return func(l *api.Layout) { l.Balises = append(l.Balises, api.Balise{Id: id, El: el, Offset: offset}) }
	}
	element := func(i int, f func(e *api.Element)) change { return func(l *api.Layout) { f(&l.Elements[i]) } }
	return []violation{
		{"no elements", 1, func(l *api.Layout) { l.Elements = nil }},
		{"empty elements", 1, func(l *api.Layout) { l.Elements = l.Elements[:0] }},
		{"too many elements", 1, func(l *api.Layout) {
			l.Elements = append(l.Elements, make([]api.Element, api.MaxElements+1-len(l.Elements))...)
		}},
		{"no sections", 1, func(l *api.Layout) { l.Sections = nil }},
		{"too many sections", 1, func(l *api.Layout) { l.Sections = make([]string, api.MaxSections+1) }},
		{"too many signals", 1, func(l *api.Layout) { l.Signals = make([]api.Signal, api.MaxSignals+1) }},
		{"too many balises", 1, func(l *api.Layout) { l.Balises = make([]api.Balise, api.MaxBalises+1) }},

		{"no name of the layout", 2, func(l *api.Layout) { l.Name = "" }},
		{"a long name of the layout", 2, func(l *api.Layout) { l.Name = strings.Repeat("a", api.MaxName+1) }},
		{"a capital letter", 2, func(l *api.Layout) { l.Name = "Yard" }},
		{"a section without a name", 2, func(l *api.Layout) { l.Sections[2] = "" }},
		{"the first section with a bad name", 2, func(l *api.Layout) { l.Sections[0] = "w " }},
		{"an element without a name", 2, element(3, func(e *api.Element) { e.Name = "" })},
		{"an element with a bad name", 2, element(0, func(e *api.Element) { e.Name = "1n" })},
		{"a signal without a name", 2, func(l *api.Layout) { l.Signals[2].Name = "" }},
		{"a signal with a bad name", 2, func(l *api.Layout) { l.Signals[0].Name = "s-1" }},

		{"two sections", 3, func(l *api.Layout) { l.Sections[2] = "w" }},
		{"two neighboring sections", 3, func(l *api.Layout) { l.Sections[1] = "w" }},
		{"two elements", 3, element(3, func(e *api.Element) { e.Name = "in" })},
		{"two signals", 3, func(l *api.Layout) { l.Signals[2].Name = "s" }},

		{"kind 0", 4, element(0, func(e *api.Element) { e.Kind = 0 })},
		{"kind 4", 4, element(0, func(e *api.Element) { e.Kind = 4 })},
		{"a negative kind", 4, element(3, func(e *api.Element) { e.Kind = -1 })},
		{"a kind far off", 4, element(3, func(e *api.Element) { e.Kind = 1<<32 + 1 })},
		{"a short element", 4, element(0, func(e *api.Element) { e.Length = api.MinLength - 1 })},
		{"a long element", 4, element(0, func(e *api.Element) { e.Length = api.MaxLength + 1 })},
		{"the greatest length", 4, element(3, func(e *api.Element) { e.Length = math.MaxInt })},
		{"a steep element", 4, element(0, func(e *api.Element) { e.Grade = api.MaxGrade + 1 })},
		{"a steep element downwards", 4, element(0, func(e *api.Element) { e.Grade = -api.MaxGrade - 1 })},
		{"the least gradient", 4, element(3, func(e *api.Element) { e.Grade = math.MinInt })},
		{"a slow element", 4, element(0, func(e *api.Element) { e.Speed = 99 })},
		{"a fast element", 4, element(0, func(e *api.Element) { e.Speed = api.MaxSpeed + 1 })},
		{"slow points", 4, element(1, func(e *api.Element) { e.Speed, e.Slow = 99, 99 })},
		{"points with a slow reverse leg", 4, element(1, func(e *api.Element) { e.Slow = 99 })},
		{"points without a speed of the reverse leg", 4, element(1, func(e *api.Element) { e.Slow = 0 })},
		{"points with a fast reverse leg", 4, element(1, func(e *api.Element) { e.Slow = e.Speed + 1 })},
		{"a track with a reverse leg", 4, element(0, func(e *api.Element) { e.Slow = 100 })},
		{"a crossing with a reverse leg", 4, element(2, func(e *api.Element) { e.Slow = e.Speed })},
		{"a negative speed of a reverse leg", 4, element(0, func(e *api.Element) { e.Slow = -1 })},
		{"a section behind the last one", 4, element(2, func(e *api.Element) { e.Section = 3 })},
		{"a section before the first one", 4, element(2, func(e *api.Element) { e.Section = -1 })},
		{"a section far off", 4, element(2, func(e *api.Element) { e.Section = math.MinInt })},

		{"a section without an element", 5, func(l *api.Layout) { l.Sections = append(l.Sections, "z") }},
		{"the first section without an element", 5, element(0, func(e *api.Element) { e.Section = 1 })},

		{"a joint of an end with itself", 6, joint(end(0, 0), end(0, 0))},
		{"a joint at a side 2 of a track", 6, joint(end(0, 2), end(3, 1))},
		{"a joint at a side 3 of points", 6, joint(end(3, 1), end(1, 3))},
		{"a joint at a side 4 of a crossing", 6, joint(end(3, 1), end(2, 4))},
		{"a joint at a side -1", 6, joint(end(3, 1), end(2, -1))},
		{"a joint at an element behind the last one", 6, joint(end(4, 0), end(3, 1))},
		{"a joint at an element before the first one", 6, joint(end(3, 1), end(-1, 0))},
		{"a joint at an element far off", 6, joint(end(math.MaxInt, 0), end(math.MinInt, 0))},

		{"an end in two joints, as A and A", 7, joint(end(1, 0), end(3, 1))},
		{"an end in two joints, as B and A", 7, joint(end(0, 1), end(3, 1))},
		{"an end in two joints, as A and B", 7, joint(end(3, 1), end(1, 2))},
		{"an end in two joints, as B and B", 7, joint(end(3, 1), end(2, 3))},
		{"a joint that is there twice", 7, joint(end(1, 0), end(0, 1))},
		{"a joint that is there in both directions", 7, joint(end(0, 1), end(1, 0))},
		{"two joints between ends that are joined to others", 7, joint(end(0, 1), end(1, 1))},

		{"a signal at a side 2 of a track", 8, signal(end(0, 2), 0)},
		{"a signal at a side -1", 8, signal(end(1, -1), 0)},
		{"a signal at an element behind the last one", 8, signal(end(4, 0), 0)},
		{"a signal at an element before the first one", 8, signal(end(-1, 1), 0)},
		{"a signal with a negative overlap", 8, signal(end(1, 0), -1)},
		{"a signal with a long overlap", 8, signal(end(1, 0), api.MaxLength+1)},

		{"two signals at an end", 9, signal(end(0, 1), 0)},
		{"two signals at an end, neighbors in the list", 9, signal(end(1, 1), 700)},

		{"a signal at an end that is not joined", 10, signal(end(0, 0), 0)},
		{"a signal at an end that is not joined, of a crossing", 10, signal(end(2, 1), 0)},
		{"a signal within a section", 10, signal(end(1, 2), 0)},
		{"a signal within a section, in the other direction", 10, signal(end(2, 3), 0)},

		{"a balise with the Id 0", 11, balise(0, 0, 0)},
		{"a balise with a negative Id", 11, balise(-1, 0, 0)},
		{"a balise with a great Id", 11, balise(api.MaxCount+1, 0, 0)},
		{"a balise at an element behind the last one", 11, balise(1, 4, 0)},
		{"a balise at an element before the first one", 11, balise(1, -1, 0)},
		{"a balise at an element far off", 11, balise(1, math.MinInt, 0)},
		{"a balise before its element", 11, balise(1, 1, -1)},
		{"a balise behind its element", 11, balise(1, 1, 601)},

		{"two balises with an Id", 12, balise(7, 3, 1)},
		{"two neighboring balises with an Id", 12, balise(9, 1, 600)},
	}
}

// P7.1: a layout that meets all conditions but one, and those that meet all before it.
func TestCheckConditions(t *testing.T) {
	for _, l := range []api.Layout{line(), yard(), broad()} {
		checkCheck(t, l.Name, l, api.OK)
	}
	for _, v := range violations() {
		l := yard()
		v.change(&l)
		checkCheck(t, v.about, l, errorOf(v.condition))
	}
}

// P7.1: of several conditions that are not met, the first one decides.
func TestCheckFirst(t *testing.T) {
	for _, v := range violations() {
		for _, w := range violations() {
			// A change of a whole list can leave the other change nothing that it could apply to.
			if v.condition == 1 || w.condition == 1 {
				continue
			}
			l := yard()
			v.change(&l)
			w.change(&l)
			checkCheck(t, v.about+" and "+w.about, l, errorOf(firstUnmet(l)))
		}
	}
	for _, v := range violations() {
		if v.condition > 1 {
			l := yard()
			v.change(&l)
			l.Balises = append(l.Balises, make([]api.Balise, api.MaxBalises)...)
			checkCheck(t, v.about+" and too many balises", l, api.ErrLimit)
		}
	}
	checkCheck(t, "nothing", api.Layout{}, api.ErrLimit)
}

// P7.1: values at the limits, and names that only different kinds of parts share, are permitted.
func TestCheckPermitted(t *testing.T) {
	for i, c := range []change{
		func(l *api.Layout) { l.Name = strings.Repeat("a", api.MaxName) },
		func(l *api.Layout) { l.Sections[0] = "yard"; l.Signals[0].Name = "yard"; l.Elements[0].Name = "yard" },
		func(l *api.Layout) { l.Signals[0].Name = "in"; l.Sections[2] = "in"; l.Sections[1] = "s" },
		func(l *api.Layout) { l.Elements[0].Length = api.MinLength },
		func(l *api.Layout) { l.Elements[3].Length = api.MaxLength },
		func(l *api.Layout) { l.Elements[2].Grade = api.MaxGrade },
		func(l *api.Layout) { l.Elements[1].Grade = -api.MaxGrade },
		func(l *api.Layout) { l.Elements[0].Speed = 100 },
		func(l *api.Layout) { l.Elements[0].Speed = api.MaxSpeed },
		func(l *api.Layout) { l.Elements[1].Slow = 100 },
		func(l *api.Layout) { l.Elements[1].Slow = l.Elements[1].Speed },
		func(l *api.Layout) { l.Elements[1].Speed = 100; l.Elements[1].Slow = 100 },
		func(l *api.Layout) { l.Elements[1].Speed = api.MaxSpeed; l.Elements[1].Slow = api.MaxSpeed },
		func(l *api.Layout) { l.Joints = l.Joints[:3:3]; l.Joints[1].B = api.End{El: 2, Side: 0} },
		func(l *api.Layout) {
			l.Joints = append(l.Joints, api.Joint{A: api.End{El: 2, Side: 0}, B: api.End{El: 2, Side: 2}})
		},
		func(l *api.Layout) {
			l.Joints = append(l.Joints, api.Joint{A: api.End{El: 3, Side: 1}, B: api.End{El: 0}})
		},
		func(l *api.Layout) { l.Signals[0].Overlap = api.MaxLength },
		func(l *api.Layout) { l.Signals[0].Overlap = 0 },
		func(l *api.Layout) { l.Signals = append(l.Signals, api.Signal{Name: "v", At: api.End{El: 1}}) },
		func(l *api.Layout) { l.Signals = nil },
		func(l *api.Layout) { l.Balises[0].Id = 1 },
		func(l *api.Layout) { l.Balises[0].Id = api.MaxCount },
		func(l *api.Layout) { l.Balises[0].Offset = 0 },
		func(l *api.Layout) { l.Balises[0].Offset = l.Elements[0].Length },
		func(l *api.Layout) { l.Balises[0].El = 1; l.Balises[0].Offset = l.Elements[1].Length },
		func(l *api.Layout) { l.Balises[0].El = l.Balises[2].El; l.Balises[0].Offset = l.Balises[2].Offset },
		func(l *api.Layout) { l.Balises = nil },
		func(l *api.Layout) { l.Joints, l.Signals = nil, nil },
		func(l *api.Layout) {
			*l = api.Layout{Name: "one", Sections: l.Sections[:1], Elements: l.Elements[:1]}
		},
	} {
		l := yard()
		c(&l)
		checkCheck(t, fmt.Sprint("permitted change ", i), l, api.OK)
	}
}

// P7.1: the numbers of parts, each at its limit and one beyond it.
func TestCheckLimits(t *testing.T) {
	for i, c := range []change{
		func(l *api.Layout) {
			l.Elements = append(l.Elements, api.Element{Name: "more", Kind: api.ElTrack, Length: 500, Speed: 100})
		},
		func(l *api.Layout) { l.Sections = append(l.Sections, "more") },
		func(l *api.Layout) {
			l.Signals = append(l.Signals, api.Signal{Name: "more", At: api.End{El: api.MaxSignals, Side: 1}})
		},
		func(l *api.Layout) { l.Balises = append(l.Balises, api.Balise{Id: 1000}) },
	} {
		l := broad()
		c(&l)
		checkCheck(t, fmt.Sprint("one beyond limit ", i), l, api.ErrLimit)
	}
}

// Examples 1 to 3 of the chapter.
func TestExamples(t *testing.T) {
	checkJoined(t, line(), api.End{El: 0, Side: 1}, api.End{El: 1, Side: 0}, true)
	checkJoined(t, line(), api.End{El: 0, Side: 0}, api.End{}, false)
	checkSignal(t, line(), api.End{El: 0, Side: 1}, 0)

	l := line()
	l.Joints = l.Joints[1:]
	checkCheck(t, "without the joint of a and b", l, api.ErrUnsafe)

	l = line()
	l.Elements[1].Section = 0
	checkCheck(t, "b in the section of a", l, api.ErrArg)
	l.Elements[2].Section = 1
	l.Sections = l.Sections[:2]
	checkCheck(t, "with two sections", l, api.ErrUnsafe)
}

// tangled is not valid in many ways: joints of an end with itself, ends in several joints, ends and sections that do not exist,
// two signals at an end, and two elements with a name.
func tangled() api.Layout {
	return api.Layout{
		Sections: []string{"x", "x"},
		Elements: []api.Element{
			{Name: "a", Kind: api.ElPoint, Section: 1},
			{Name: "b", Kind: 9, Section: -1},
			{Name: "a", Kind: api.ElPoint, Section: 7},
			{Name: "", Kind: api.ElTrack, Section: 1},
		},
		Joints: []api.Joint{
			{A: api.End{El: 0, Side: 1}, B: api.End{El: 0, Side: 1}},
			{A: api.End{El: 0, Side: 1}, B: api.End{El: 1, Side: 0}},
			{A: api.End{El: 2, Side: 0}, B: api.End{El: 1, Side: 0}},
			{A: api.End{El: 1, Side: 0}, B: api.End{El: 9, Side: -4}},
			{A: api.End{El: -1, Side: 5}, B: api.End{El: 3, Side: 0}},
			{A: api.End{El: 2, Side: 1}, B: api.End{El: 2, Side: 2}},
			{A: api.End{El: 2, Side: 2}, B: api.End{El: 2, Side: 2}},
		},
		Signals: []api.Signal{
			{Name: "q", At: api.End{El: 5, Side: 5}},
			{Name: "r", At: api.End{El: 0, Side: 1}},
			{Name: "s", At: api.End{El: 0, Side: 1}},
			{Name: "q", At: api.End{El: 5, Side: 5}},
		},
	}
}

// P7.2
func TestJoined(t *testing.T) {
	for _, c := range []struct{ e, want api.End }{
		{api.End{El: 0, Side: 1}, api.End{El: 1, Side: 0}},
		{api.End{El: 1, Side: 0}, api.End{El: 0, Side: 1}},
		{api.End{El: 1, Side: 1}, api.End{El: 3, Side: 0}},
		{api.End{El: 3, Side: 0}, api.End{El: 1, Side: 1}},
		{api.End{El: 1, Side: 2}, api.End{El: 2, Side: 3}},
		{api.End{El: 2, Side: 3}, api.End{El: 1, Side: 2}},
	} {
		checkJoined(t, yard(), c.e, c.want, true)
	}
	for _, e := range []api.End{{}, {El: 2}, {El: 2, Side: 2}, {El: 3, Side: 1}, {El: 0, Side: 2}, {El: 4}, {El: -1, Side: -1}, {El: math.MaxInt, Side: math.MinInt}} {
		checkJoined(t, yard(), e, api.End{}, false)
		checkJoined(t, api.Layout{}, e, api.End{}, false)
	}
	for _, c := range []struct{ e, want api.End }{
		{api.End{El: 0, Side: 1}, api.End{El: 0, Side: 1}},
		{api.End{El: 1, Side: 0}, api.End{El: 0, Side: 1}},
		{api.End{El: 2, Side: 0}, api.End{El: 1, Side: 0}},
		{api.End{El: 9, Side: -4}, api.End{El: 1, Side: 0}},
		{api.End{El: -1, Side: 5}, api.End{El: 3, Side: 0}},
		{api.End{El: 3, Side: 0}, api.End{El: -1, Side: 5}},
		{api.End{El: 2, Side: 2}, api.End{El: 2, Side: 1}},
	} {
		checkJoined(t, tangled(), c.e, c.want, true)
	}
	checkJoined(t, tangled(), api.End{El: 3, Side: 1}, api.End{}, false)
	// The zero End can be the joined one, too.
	zero := api.Layout{Joints: []api.Joint{{A: api.End{El: 1}, B: api.End{}}}}
	checkJoined(t, zero, api.End{El: 1}, api.End{}, true)
	checkJoined(t, zero, api.End{}, api.End{El: 1}, true)
}

// P7.3
func TestSignal(t *testing.T) {
	checkSignal(t, yard(), api.End{El: 0, Side: 1}, 0)
	checkSignal(t, yard(), api.End{El: 3, Side: 0}, 1)
	checkSignal(t, yard(), api.End{El: 1, Side: 1}, 2)
	for _, e := range []api.End{{}, {El: 1}, {El: 3, Side: 1}, {El: 9}, {El: -1}, {El: math.MinInt, Side: math.MaxInt}} {
		checkSignal(t, yard(), e, -1)
		checkSignal(t, api.Layout{}, e, -1)
	}
	checkSignal(t, tangled(), api.End{El: 0, Side: 1}, 1)
	checkSignal(t, tangled(), api.End{El: 5, Side: 5}, 0)
}

// P7.4
func TestPoints(t *testing.T) {
	checkPoints(t, yard(), []int{1})
	checkPoints(t, tangled(), []int{0, 2})
	checkPoints(t, line(), nil)
	checkPoints(t, api.Layout{}, nil)
}

// P7.4
func TestMembers(t *testing.T) {
	checkMembers(t, yard(), 0, []int{0})
	checkMembers(t, yard(), 1, []int{1, 2})
	checkMembers(t, yard(), 2, []int{3})
	checkMembers(t, tangled(), 1, []int{0, 3})
	checkMembers(t, tangled(), 0, nil)
	// Elements name these sections, but the layout does not have them.
	checkMembers(t, tangled(), -1, nil)
	checkMembers(t, tangled(), 7, nil)
	l := tangled()
	l.Elements[1].Section = 2
	checkMembers(t, l, 2, nil)
	for _, s := range []int{-1, 0, 3, math.MinInt, math.MaxInt} {
		checkMembers(t, api.Layout{Elements: yard().Elements}, s, nil)
	}
	checkMembers(t, yard(), 3, nil)
}

// P7.5
func TestElement(t *testing.T) {
	for i, name := range []string{"in", "p", "k", "out"} {
		checkElement(t, yard(), name, i)
	}
	for _, name := range []string{"", "o", "out ", "s", "w", "yard", "OUT"} {
		checkElement(t, yard(), name, -1)
		checkElement(t, api.Layout{}, name, -1)
	}
	checkElement(t, tangled(), "a", 0)
	checkElement(t, tangled(), "", 3)
}

// P7.5
func TestSection(t *testing.T) {
	for i, s := range []int{0, 1, 1, 2} {
		checkSection(t, yard(), i, s)
	}
	// The section of an element stands in the result even if the layout does not have it.
	for i, s := range []int{1, -1, 7, 1} {
		checkSection(t, tangled(), i, s)
	}
	for _, el := range []int{-1, 4, math.MinInt, math.MaxInt} {
		checkSection(t, yard(), el, -1)
		checkSection(t, tangled(), el, -1)
	}
	checkSection(t, api.Layout{Sections: []string{"x"}}, 0, -1)
}

// sidesOf are the numbers of sides of the kinds.
func sidesOf(kind int) int {
	return map[int]int{api.ElTrack: 2, api.ElPoint: 3, api.ElCross: 4}[kind]
}

func isEnd(l api.Layout, e api.End) bool {
	return e.El >= 0 && e.El < len(l.Elements) && e.Side >= 0 && e.Side < sidesOf(l.Elements[e.El].Kind)
}

func isName(s string) bool {
	return len(s) > 0 && len(s) <= api.MaxName && s[0] >= 'a' && s[0] <= 'z' && strings.Trim(s, "abcdefghijklmnopqrstuvwxyz0123456789_") == ""
}

// twice tells whether two of n values are the same.
func twice(n int, same func(i, j int) bool) bool {
	for i := range n {
		for j := range i {
			if same(i, j) {
				return true
			}
		}
	}
	return false
}

// firstUnmet is the chapter's list of conditions: the number of the first one that is not met, 0 if all are met.
func firstUnmet(l api.Layout) int {
	unmet := 0
	// As conditions are examined from the last one on, the least number is the one that stays.
	require := func(condition int, ok bool) {
		if !ok {
			unmet = condition
		}
	}
	inside := true // whether the indexes of all parts exist, without which some later conditions have no meaning
	for _, b := range l.Balises {
		inside = inside && b.El >= 0 && b.El < len(l.Elements)
	}
	require(12, !twice(len(l.Balises), func(i, j int) bool { return l.Balises[i].Id == l.Balises[j].Id }))
	for _, b := range l.Balises {
		require(11, inside && b.Id >= 1 && b.Id <= api.MaxCount && b.Offset >= 0 && b.Offset <= l.Elements[b.El].Length)
	}
	for _, s := range l.Signals {
		met := false
		for _, j := range l.Joints {
			if isEnd(l, j.A) && isEnd(l, j.B) {
				other := l.Elements[j.A.El].Section != l.Elements[j.B.El].Section
				met = met || other && (j.A == s.At || j.B == s.At)
			}
		}
		require(10, met)
	}
	require(9, !twice(len(l.Signals), func(i, j int) bool { return l.Signals[i].At == l.Signals[j].At }))
	for _, s := range l.Signals {
		require(8, isEnd(l, s.At) && s.Overlap >= 0 && s.Overlap <= api.MaxLength)
	}
	require(7, !twice(len(l.Joints), func(i, j int) bool {
		a, b := l.Joints[i], l.Joints[j]
		return a.A == b.A || a.A == b.B || a.B == b.A || a.B == b.B
	}))
	for _, j := range l.Joints {
		require(6, isEnd(l, j.A) && isEnd(l, j.B) && j.A != j.B)
	}
	for i := range l.Sections {
		require(5, slices.ContainsFunc(l.Elements, func(e api.Element) bool { return e.Section == i }))
	}
	for _, e := range l.Elements {
		require(4, sidesOf(e.Kind) > 0 && e.Length >= api.MinLength && e.Length <= api.MaxLength && e.Grade >= -api.MaxGrade && e.Grade <= api.MaxGrade)
		require(4, e.Speed >= 100 && e.Speed <= api.MaxSpeed && e.Section >= 0 && e.Section < len(l.Sections))
		require(4, e.Kind == api.ElPoint || e.Slow == 0)
		require(4, e.Kind != api.ElPoint || e.Slow >= 100 && e.Slow <= e.Speed)
	}
	require(3, !twice(len(l.Sections), func(i, j int) bool { return l.Sections[i] == l.Sections[j] }))
	require(3, !twice(len(l.Elements), func(i, j int) bool { return l.Elements[i].Name == l.Elements[j].Name }))
	require(3, !twice(len(l.Signals), func(i, j int) bool { return l.Signals[i].Name == l.Signals[j].Name }))
	require(2, isName(l.Name))
	for _, s := range l.Sections {
		require(2, isName(s))
	}
	for _, e := range l.Elements {
		require(2, isName(e.Name))
	}
	for _, s := range l.Signals {
		require(2, isName(s.Name))
	}
	require(1, len(l.Elements) >= 1 && len(l.Elements) <= api.MaxElements && len(l.Sections) >= 1 && len(l.Sections) <= api.MaxSections)
	require(1, len(l.Signals) <= api.MaxSignals && len(l.Balises) <= api.MaxBalises)
	return unmet
}

// randomEnd is an end that exists.
func randomEnd(r *rand.Rand, l api.Layout) api.End {
	el := r.Intn(len(l.Elements))
	return api.End{El: el, Side: r.Intn(sidesOf(l.Elements[el].Kind))}
}

// randomValid is a valid layout: the ends of elements of all kinds are joined at random, and signals stand where sections meet.
func randomValid(r *rand.Rand) api.Layout {
	l := api.Layout{Name: "random"}
	elements := 1 + r.Intn(8)
	sections := 1 + r.Intn(elements)
	for i := range elements {
		e := api.Element{Name: fmt.Sprintf("e%d", i), Kind: 1 + r.Intn(3), Length: api.MinLength + r.Intn(5000), Grade: r.Intn(101) - 50, Speed: 100 + r.Intn(5000), Section: i}
		if i >= sections {
			e.Section = r.Intn(sections)
		} else {
			l.Sections = append(l.Sections, fmt.Sprintf("x%d", i))
		}
		if e.Kind == api.ElPoint {
			e.Slow = 100 + r.Intn(e.Speed-99)
		}
		l.Elements = append(l.Elements, e)
	}
	used := map[api.End]bool{}
	for range 2 * elements {
		a, b := randomEnd(r, l), randomEnd(r, l)
		if a == b || used[a] || used[b] {
			continue
		}
		used[a], used[b] = true, true
		l.Joints = append(l.Joints, api.Joint{A: a, B: b})
		for i, at := range []api.End{a, b} {
			if l.Elements[a.El].Section != l.Elements[b.El].Section && r.Intn(2) == 0 {
				l.Signals = append(l.Signals, api.Signal{Name: fmt.Sprintf("s%d_%d", len(l.Joints), i), At: at, Overlap: r.Intn(2000)})
			}
		}
	}
	for i := range r.Intn(5) {
		el := r.Intn(elements)
		l.Balises = append(l.Balises, api.Balise{Id: 10 * (i + 1), El: el, Offset: r.Intn(l.Elements[el].Length + 1)})
	}
	return l
}

// disturb changes one thing of a layout at random, to something that is often not valid.
func disturb(r *rand.Rand, l *api.Layout) {
	small := func() int { return r.Intn(12) - 2 }
	pick := func(n int) int { return r.Intn(max(n, 1)) }
	el, joint, signal, balise := pick(len(l.Elements)), pick(len(l.Joints)), pick(len(l.Signals)), pick(len(l.Balises))
	changes := []func(){
		func() { l.Elements[el].Kind = r.Intn(6) - 1 },
		func() { l.Elements[el].Section = small() },
		func() { l.Elements[el].Slow = small() * 50 },
		func() { l.Elements[el].Speed = small() * 50 },
		func() { l.Elements[el].Length = small() * 400 },
		func() { l.Elements[el].Name = fmt.Sprintf("e%d", small()) },
		func() { l.Sections = append(l.Sections, fmt.Sprintf("x%d", small())) },
		func() { l.Sections = l.Sections[:len(l.Sections)-1] },
		func() { l.Joints = append(l.Joints, api.Joint{A: randomEnd(r, *l), B: randomEnd(r, *l)}) },
		func() { l.Joints[joint].A = api.End{El: small(), Side: small()} },
		func() { l.Joints[joint].B = api.End{El: small(), Side: small()} },
		func() { l.Joints = slices.Delete(l.Joints, joint, joint+1) },
		func() { l.Signals = append(l.Signals, api.Signal{Name: "v", At: randomEnd(r, *l)}) },
		func() { l.Signals[signal].At = api.End{El: small(), Side: small()} },
		func() { l.Signals[signal].Overlap = small() },
		func() { l.Balises[balise].Id = 10 * small() },
		func() { l.Balises[balise].El = small() },
		func() { l.Balises[balise].Offset = small() * 500 },
	}
	func() {
		// A list may be empty, or an element have no sides any more; then nothing is changed.
		defer func() { recover() }()
		changes[r.Intn(len(changes))]()
	}()
}

// P7.1, P7.2 to P7.5: valid layouts, and layouts with a few changes of those, compared with the definitions.
func TestAllRandom(t *testing.T) {
	r := rand.New(rand.NewSource(7))
	seen := map[int]int{}
	for range 20000 {
		l := randomValid(r)
		checkCheck(t, fmt.Sprintf("%+v", l), l, api.OK)
		for range 1 + r.Intn(3) {
			disturb(r, &l)
		}
		n := firstUnmet(l)
		seen[n]++
		checkCheck(t, fmt.Sprintf("%+v", l), l, errorOf(n))
		checkFound(t, l)
	}
	for n := range 13 {
		if seen[n] == 0 {
			t.Errorf("condition %d was never the first one", n)
		}
	}
}

// checkFound compares what is found in a layout with the definitions.
func checkFound(t *testing.T, l api.Layout) {
	t.Helper()
	for el := -2; el < 10; el++ {
		for side := -2; side < 6; side++ {
			checkEnd(t, l, api.End{El: el, Side: side})
		}
		section := -1
		if el >= 0 && el < len(l.Elements) {
			section = l.Elements[el].Section
		}
		checkSection(t, l, el, section)
		checkElement(t, l, fmt.Sprintf("e%d", el), slices.IndexFunc(l.Elements, func(e api.Element) bool { return e.Name == fmt.Sprintf("e%d", el) }))
	}
	members := map[int][]int{}
	var points []int
	for i, e := range l.Elements {
		if e.Section >= 0 && e.Section < len(l.Sections) {
			members[e.Section] = append(members[e.Section], i)
		}
		if e.Kind == api.ElPoint {
			points = append(points, i)
		}
	}
	checkPoints(t, l, points)
	for s := -3; s < 12; s++ {
		checkMembers(t, l, s, members[s])
	}
}

// checkEnd compares what is at an end with the definitions.
func checkEnd(t *testing.T, l api.Layout, e api.End) {
	t.Helper()
	var other api.End
	i := slices.IndexFunc(l.Joints, func(j api.Joint) bool { return j.A == e || j.B == e })
	if i >= 0 {
		// Of the two ends, the one that is not e; if both are e, e.
		other = l.Joints[i].A
		if other == e {
			other = l.Joints[i].B
		}
	}
	checkJoined(t, l, e, other, i >= 0)
	checkSignal(t, l, e, slices.IndexFunc(l.Signals, func(s api.Signal) bool { return s.At == e }))
}

// P7.6, P7.7
func TestValid(t *testing.T) {
	r := rand.New(rand.NewSource(76))
	layouts := []api.Layout{line(), yard(), broad()}
	for range 2000 {
		layouts = append(layouts, randomValid(r))
	}
	for _, l := range layouts {
		for el, e := range l.Elements {
			for side := range sidesOf(e.Kind) {
				checkBack(t, l, api.End{El: el, Side: side})
			}
			in := 0
			for s := range l.Sections {
				if slices.Contains(layout.Members(l, s), el) {
					in++
				}
			}
			if in != 1 {
				t.Errorf("element %d is in %d sections of %+v", el, in, l)
			}
			checkElement(t, l, e.Name, el)
		}
	}
}

// checkBack examines the end that is joined to an end, if there is one.
func checkBack(t *testing.T, l api.Layout, e api.End) {
	t.Helper()
	f, ok := layout.Joined(l, e)
	if !ok {
		if layout.Signal(l, e) != -1 {
			t.Errorf("a signal at %v, which is not joined", e)
		}
		return
	}
	if back, ok := layout.Joined(l, f); !ok || back != e || f == e {
		t.Errorf("%v is joined to %v, and that to %v", e, f, back)
	}
	if layout.Signal(l, e) != -1 && layout.Section(l, e.El) == layout.Section(l, f.El) {
		t.Errorf("no other section begins behind the signal at %v", e)
	}
}

// P7.8
func TestWithout(t *testing.T) {
	r := rand.New(rand.NewSource(78))
	layouts := []api.Layout{line(), yard(), broad()}
	for range 2000 {
		layouts = append(layouts, randomValid(r))
	}
	for _, l := range layouts {
		for i := range l.Balises {
			m := clone(l)
			m.Balises = slices.Delete(m.Balises, i, i+1)
			checkCheck(t, fmt.Sprintf("%+v without balise %d", l, i), m, api.OK)
		}
		for i := range l.Signals {
			m := clone(l)
			m.Signals = slices.Delete(m.Signals, i, i+1)
			checkCheck(t, fmt.Sprintf("%+v without signal %d", l, i), m, api.OK)
		}
		for i, j := range l.Joints {
			m := clone(l)
			m.Joints = slices.Delete(m.Joints, i, i+1)
			want := api.OK
			if layout.Signal(l, j.A) != -1 || layout.Signal(l, j.B) != -1 {
				want = api.ErrUnsafe
			}
			checkCheck(t, fmt.Sprintf("%+v without joint %d", l, i), m, want)
		}
	}
}

// 0.1: neither numbers far off nor long lists make a difference.
func TestExtremes(t *testing.T) {
	far := []int{math.MinInt, math.MinInt + 1, -1 << 32, 1 << 32, math.MaxInt - 1, math.MaxInt}
	for _, n := range far {
		l := yard()
		l.Elements = append(l.Elements, api.Element{Name: "z", Kind: n, Length: n, Grade: n, Speed: n, Slow: n, Section: n})
		l.Joints = append(l.Joints, api.Joint{A: api.End{El: n, Side: n}, B: api.End{El: 0, Side: n}})
		checkCheck(t, "numbers far off", l, api.ErrArg)
		checkFound(t, l)
	}
	l := line()
	l.Joints = make([]api.Joint, 1<<20)
	checkCheck(t, "many joints of an end with itself", l, api.ErrArg)
	for i := range l.Joints {
		l.Joints[i] = line().Joints[0]
	}
	checkCheck(t, "many joints of the same ends", l, api.ErrDuplicate)
}

// 0.4
func TestArgumentsStay(t *testing.T) {
	for _, l := range []api.Layout{line(), yard(), tangled()} {
		before := clone(l)
		layout.Check(l)
		checkFound(t, l)
		members := layout.Members(l, 1)
		points := layout.Points(l)
		for _, list := range [][]int{members, points} {
			for i := range list {
				list[i] = 99
			}
		}
		if !reflect.DeepEqual(l, before) {
			t.Errorf("the layout became %+v, was %+v", l, before)
		}
		checkFound(t, l)
	}
	a, b := layout.Points(yard()), layout.Points(yard())
	a[0] = 99
	if b[0] != 1 {
		t.Error("two results share memory")
	}
}
