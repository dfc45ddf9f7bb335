package plan_test

import (
	"fmt"
	"math/rand"
	"reflect"
	"slices"
	"strconv"
	"strings"
	"testing"

	"signalling/api"
	"signalling/layout"
	"signalling/plan"
	"signalling/words"
)

// lineText is the text of the example 1 of the chapter.
const lineText = `layout line
section a
section b
track a a 20000 0 1000
track b b 20000 0 1000
joint a 1 b 0
signal s1 a 1 0
`

// line is the layout of that example.
func line() api.Layout {
	return api.Layout{
		Name:     "line",
		Sections: []string{"a", "b"},
		Elements: []api.Element{
			{Name: "a", Kind: api.ElTrack, Length: 20000, Speed: 1000, Section: 0},
			{Name: "b", Kind: api.ElTrack, Length: 20000, Speed: 1000, Section: 1},
		},
		Joints:  []api.Joint{{A: api.End{El: 0, Side: 1}, B: api.End{El: 1, Side: 0}}},
		Signals: []api.Signal{{Name: "s1", At: api.End{El: 0, Side: 1}}},
	}
}

// yardText has all forms. Its kinds of elements are mixed, sections stand in another order than their first elements,
// and names are words of forms, or are shared by parts of different kinds.
const yardText = `layout section
section track
section w
section p
points p p 600 -50 2000 1000
track w w 1000 10 2000
cross joint p 700 -10 1500
track out track 4000 0 3000
points q track 1000000 50 10000 100
track t2 w 500 -1 100
joint w 1 p 0
joint p 2 joint 3
joint out 0 p 1
joint q 2 out 1
signal s w 1 500
signal p p 1 0
signal out out 0 1000000
balise 7 w 1000
balise 3 joint 0
balise 1073741824 p 600
balise 1 p 599
`

// yard is the layout of that text.
func yard() api.Layout {
	end := func(el, side int) api.End { return api.End{El: el, Side: side} }
	return api.Layout{
		Name:     "section",
		Sections: []string{"track", "w", "p"},
		Elements: []api.Element{
			{Name: "p", Kind: api.ElPoint, Length: 600, Grade: -50, Speed: 2000, Slow: 1000, Section: 2},
			{Name: "w", Kind: api.ElTrack, Length: 1000, Grade: 10, Speed: 2000, Section: 1},
			{Name: "joint", Kind: api.ElCross, Length: 700, Grade: -10, Speed: 1500, Section: 2},
			{Name: "out", Kind: api.ElTrack, Length: 4000, Speed: 3000, Section: 0},
			{Name: "q", Kind: api.ElPoint, Length: 1000000, Grade: 50, Speed: 10000, Slow: 100, Section: 0},
			{Name: "t2", Kind: api.ElTrack, Length: 500, Grade: -1, Speed: 100, Section: 1},
		},
		Joints: []api.Joint{
			{A: end(1, 1), B: end(0, 0)}, {A: end(0, 2), B: end(2, 3)},
			{A: end(3, 0), B: end(0, 1)}, {A: end(4, 2), B: end(3, 1)},
		},
		Signals: []api.Signal{{Name: "s", At: end(1, 1), Overlap: 500}, {Name: "p", At: end(0, 1)}, {Name: "out", At: end(3, 0), Overlap: 1000000}},
		Balises: []api.Balise{{Id: 7, El: 1, Offset: 1000}, {Id: 3, El: 2}, {Id: 1073741824, El: 0, Offset: 600}, {Id: 1, El: 0, Offset: 599}},
	}
}

// broad is valid and as large as the limits permit: crossings in a line, with the longest names and numbers, each joined
// to its neighbors on both tracks.
func broad() api.Layout {
	name := func(kind string, i int) string { return fmt.Sprintf("%s_%0*d", kind, api.MaxName-len(kind)-1, i) }
	l := api.Layout{Name: strings.Repeat("l", api.MaxName)}
	for i := range api.MaxSections {
		l.Sections = append(l.Sections, name("section", i))
	}
	for i := range api.MaxElements {
		l.Elements = append(l.Elements, api.Element{
			Name: name("element", i), Kind: api.ElCross, Length: api.MaxLength, Grade: -api.MaxGrade, Speed: api.MaxSpeed, Section: min(i, api.MaxSections-1),
		})
		for side := 0; i > 0 && side < 4; side += 2 {
			l.Joints = append(l.Joints, api.Joint{A: api.End{El: i - 1, Side: side + 1}, B: api.End{El: i, Side: side}})
		}
	}
	for i := range api.MaxSignals {
		l.Signals = append(l.Signals, api.Signal{Name: name("signal", i), At: api.End{El: i, Side: 3}, Overlap: api.MaxLength})
	}
	for i := range api.MaxBalises {
		l.Balises = append(l.Balises, api.Balise{Id: api.MaxCount - i, El: i, Offset: api.MaxLength})
	}
	return l
}

// one is the smallest layout.
func one() api.Layout {
	return api.Layout{
		Name: "l", Sections: []string{"s"},
		Elements: []api.Element{{Name: "t", Kind: api.ElTrack, Length: 500, Speed: 100}},
	}
}

// clone is a layout with lists of its own.
func clone(l api.Layout) api.Layout {
	l.Sections = slices.Clone(l.Sections)
	l.Elements = slices.Clone(l.Elements)
	l.Joints = slices.Clone(l.Joints)
	l.Signals = slices.Clone(l.Signals)
	l.Balises = slices.Clone(l.Balises)
	return l
}

// same tells whether two layouts are equal; lists that are nil and empty ones are.
func same(a, b api.Layout) bool {
	return a.Name == b.Name && slices.Equal(a.Sections, b.Sections) && slices.Equal(a.Elements, b.Elements) &&
		slices.Equal(a.Joints, b.Joints) && slices.Equal(a.Signals, b.Signals) && slices.Equal(a.Balises, b.Balises)
}

// forms are the forms of lines, as the chapter lists them; each has the place of lines in a text.
var forms = []struct {
	place int
	line  string
}{
	{0, "layout NAME"},
	{1, "section NAME"},
	{2, "track NAME SECTION LENGTH GRADE SPEED"},
	{2, "points NAME SECTION LENGTH GRADE SPEED SLOW"},
	{2, "cross NAME SECTION LENGTH GRADE SPEED"},
	{3, "joint ELEMENT SIDE ELEMENT SIDE"},
	{4, "signal NAME ELEMENT SIDE OVERLAP"},
	{5, "balise ID ELEMENT OFFSET"},
}

// formOf gives the place and the words of the form that a line has; the place -1 if it has none.
func formOf(line []string) (int, []string) {
	for _, f := range forms {
		parts := strings.Split(f.line, " ")
		if line[0] != parts[0] || len(line) != len(parts) {
			continue
		}
		for i := 1; i < len(parts); i++ {
			if _, e := words.Int(line[i]); e != api.OK && !slices.Contains([]string{"NAME", "SECTION", "ELEMENT"}, parts[i]) {
				return -1, nil
			}
		}
		return f.place, parts
	}
	return -1, nil
}

// meant gives the number that each word of a line of a form stands for, and whether there are all sections and elements.
func meant(l api.Layout, line, parts []string) ([]int, bool) {
	v := make([]int, len(line))
	for i, part := range parts {
		switch part {
		case "SECTION":
			v[i] = slices.Index(l.Sections, line[i])
		case "ELEMENT":
			v[i] = slices.IndexFunc(l.Elements, func(e api.Element) bool { return e.Name == line[i] })
		default:
			v[i], _ = words.Int(line[i])
			continue
		}
		if v[i] < 0 {
			return nil, false
		}
	}
	return v, true
}

// wantParse reads a text by these forms.
func wantParse(s string) (api.Layout, int, api.Errno) {
	lines, n, e := words.Lines(s)
	if e != api.OK {
		return api.Layout{}, n, e
	}
	if len(lines) == 0 {
		return api.Layout{}, 1, api.ErrSyntax
	}
	var l api.Layout
	last := 0
	for i, line := range lines {
		place, parts := formOf(line)
		if place < last || (i == 0) != (place == 0) {
			return api.Layout{}, i + 1, api.ErrSyntax
		}
		last = place
		v, ok := meant(l, line, parts)
		if !ok {
			return api.Layout{}, i + 1, api.ErrNotFound
		}
		addMeant(&l, line, v)
	}
	if e := layout.Check(l); e != api.OK {
		return api.Layout{}, 0, e
	}
	return l, 0, api.OK
}

// addMeant adds what a line describes to a layout; v are the numbers that its words stand for.
func addMeant(l *api.Layout, line []string, v []int) {
	switch line[0] {
	case "layout":
		l.Name = line[1]
	case "section":
		l.Sections = append(l.Sections, line[1])
	case "track":
		l.Elements = append(l.Elements, api.Element{Name: line[1], Kind: 1, Section: v[2], Length: v[3], Grade: v[4], Speed: v[5]})
	case "points":
		l.Elements = append(l.Elements, api.Element{Name: line[1], Kind: 2, Section: v[2], Length: v[3], Grade: v[4], Speed: v[5], Slow: v[6]})
	case "cross":
		l.Elements = append(l.Elements, api.Element{Name: line[1], Kind: 3, Section: v[2], Length: v[3], Grade: v[4], Speed: v[5]})
	case "joint":
		l.Joints = append(l.Joints, api.Joint{A: api.End{El: v[1], Side: v[2]}, B: api.End{El: v[3], Side: v[4]}})
	case "signal":
		l.Signals = append(l.Signals, api.Signal{Name: line[1], At: api.End{El: v[2], Side: v[3]}, Overlap: v[4]})
	case "balise":
		l.Balises = append(l.Balises, api.Balise{Id: v[1], El: v[2], Offset: v[3]})
	}
}

// short is the form in which a text stands in a message: of long ones only the beginning.
func short(s string) string {
	if len(s) > 400 {
		return fmt.Sprintf("%q.. of %d bytes", s[:400], len(s))
	}
	return fmt.Sprintf("%q", s)
}

func checkPrint(t *testing.T, about string, l api.Layout, want string, wantE api.Errno) {
	t.Helper()
	before := clone(l)
	if s, e := plan.Print(l); s != want || e != wantE {
		t.Errorf("%s: Print = %s, %d; want %s, %d", about, short(s), e, short(want), wantE)
	}
	if !same(l, before) {
		t.Errorf("%s: Print changed its argument", about)
	}
}

func checkParse(t *testing.T, s string, want api.Layout, wantN int, wantE api.Errno) {
	t.Helper()
	if l, n, e := plan.Parse(s); !same(l, want) || n != wantN || e != wantE {
		t.Errorf("Parse(%s) = %s, %d, %d; want %s, %d, %d", short(s), short(fmt.Sprint(l)), n, e, short(fmt.Sprint(want)), wantN, wantE)
	}
}

func checkError(t *testing.T, s string, wantN int, wantE api.Errno) {
	t.Helper()
	checkParse(t, s, api.Layout{}, wantN, wantE)
}

// linesOf are the lines of a text, each without its line feed.
func linesOf(text string) []string {
	return strings.Split(strings.TrimSuffix(text, "\n"), "\n")
}

// textOf is the text with these lines.
func textOf(lines []string) string {
	return strings.Join(lines, "\n") + "\n"
}

// replaced is the text with another line n, which is counted from 1.
func replaced(text string, n int, line string) string {
	lines := linesOf(text)
	lines[n-1] = line
	return textOf(lines)
}

// firstLines are the numbers of the first line of each form in the text of the yard.
func firstLines() []int { return []int{1, 2, 5, 6, 7, 11, 15, 18} }

// Examples 1 to 3 of the chapter.
func TestExamples(t *testing.T) {
	checkPrint(t, "line", line(), lineText, api.OK)
	checkParse(t, lineText, line(), 0, api.OK)
	checkError(t, replaced(lineText, 6, "joint a 1 x 0"), 6, api.ErrNotFound)
	checkError(t, replaced(lineText, 6, "joint a 1 b"), 6, api.ErrSyntax)
	lines := linesOf(lineText)
	lines[1], lines[3] = lines[3], lines[1]
	checkError(t, textOf(lines), 2, api.ErrNotFound)
	checkError(t, "layout line\n", 0, api.ErrLimit)
}

// P8.1: the lines in the order of the forms, and each in the order of the layout.
func TestPrint(t *testing.T) {
	checkPrint(t, "yard", yard(), yardText, api.OK)
	checkPrint(t, "one", one(), "layout l\nsection s\ntrack t s 500 0 100\n", api.OK)

	turned := yard()
	slices.Reverse(turned.Joints)
	slices.Reverse(turned.Signals)
	slices.Reverse(turned.Balises)
	turned.Joints[0].A, turned.Joints[0].B = turned.Joints[0].B, turned.Joints[0].A
	lines := linesOf(yardText)
	slices.Reverse(lines[10:14])
	slices.Reverse(lines[14:17])
	slices.Reverse(lines[17:21])
	lines[10] = "joint out 1 q 2"
	checkPrint(t, "turned", turned, textOf(lines), api.OK)
}

// P8.1: the largest layout has a text, too.
func TestPrintOfLargest(t *testing.T) {
	s, e := plan.Print(broad())
	if e != api.OK {
		t.Fatalf("Print of the largest layout is %d", e)
	}
	for _, want := range []string{
		"layout llllllllllll\nsection section_0000\n",
		"\nsection section_0023\ncross element_0000 section_0000 1000000 -50 10000\n",
		"\ncross element_0031 section_0023 1000000 -50 10000\njoint element_0000 1 element_0001 0\njoint element_0000 3 element_0001 2\n",
		"\nsignal signal_00019 element_0019 3 1000000\nbalise 1073741824 element_0000 1000000\n",
	} {
		if !strings.Contains(s, want) {
			t.Errorf("the text of the largest layout lacks\n%s", want)
		}
	}
	if !strings.HasSuffix(s, "\nbalise 1073741801 element_0023 1000000\n") {
		t.Errorf("the text of the largest layout ends with %q", s[len(s)-60:])
	}
}

// P8.1: layouts that are not valid have the error of layout.Check, and no text.
func TestPrintOfNotValid(t *testing.T) {
	for i, c := range []struct {
		e      api.Errno
		change func(l *api.Layout)
	}{
		{api.ErrLimit, func(l *api.Layout) { *l = api.Layout{} }},
		{api.ErrLimit, func(l *api.Layout) { l.Elements = nil }},
		{api.ErrLimit, func(l *api.Layout) { l.Sections = nil }},
		{api.ErrLimit, func(l *api.Layout) { l.Signals = make([]api.Signal, api.MaxSignals+1) }},
		{api.ErrName, func(l *api.Layout) { l.Name = "" }},
		{api.ErrName, func(l *api.Layout) { l.Name = "a b" }},
		{api.ErrName, func(l *api.Layout) { l.Sections[0] = "x\nsection y" }},
		{api.ErrName, func(l *api.Layout) { l.Elements[1].Name = "W" }},
		{api.ErrDuplicate, func(l *api.Layout) { l.Sections[1] = "track" }},
		{api.ErrDuplicate, func(l *api.Layout) { l.Elements[1].Name = "p" }},
		{api.ErrDuplicate, func(l *api.Layout) { l.Signals[1].Name = "s" }},
		{api.ErrArg, func(l *api.Layout) { l.Elements[0].Kind = 0 }},
		{api.ErrArg, func(l *api.Layout) { l.Elements[0].Kind = 4 }},
		{api.ErrArg, func(l *api.Layout) { l.Elements[1].Slow = 100 }},
		{api.ErrArg, func(l *api.Layout) { l.Elements[0].Section = 3 }},
		{api.ErrArg, func(l *api.Layout) { l.Elements[0].Section = -1 }},
		{api.ErrArg, func(l *api.Layout) { l.Sections = append(l.Sections, "z") }},
		{api.ErrArg, func(l *api.Layout) { l.Joints[0].A.El = 6 }},
		{api.ErrArg, func(l *api.Layout) { l.Joints[0].B.El = -1 }},
		{api.ErrArg, func(l *api.Layout) { l.Signals[0].At.El = 6 }},
		{api.ErrArg, func(l *api.Layout) { l.Balises[0].El = -1 }},
		{api.ErrDuplicate, func(l *api.Layout) { l.Joints[1].A = l.Joints[0].A }},
		{api.ErrDuplicate, func(l *api.Layout) { l.Balises[1].Id = 7 }},
		{api.ErrUnsafe, func(l *api.Layout) { l.Joints = l.Joints[1:] }},
	} {
		l := yard()
		c.change(&l)
		checkPrint(t, fmt.Sprint("change ", i), l, "", c.e)
	}
}

// P8.2
func TestParse(t *testing.T) {
	checkParse(t, lineText, line(), 0, api.OK)
	checkParse(t, yardText, yard(), 0, api.OK)
	checkParse(t, "layout l\nsection s\ntrack t s 500 0 100\n", one(), 0, api.OK)

	// Texts that have no lines at some of the places in between.
	marked := one()
	marked.Balises = []api.Balise{{Id: 9, Offset: 250}}
	checkParse(t, "layout l\nsection s\ntrack t s 500 0 100\nbalise 9 t 250\n", marked, 0, api.OK)
	loop := one()
	loop.Elements[0].Kind = api.ElCross
	loop.Joints = []api.Joint{{A: api.End{Side: 0}, B: api.End{Side: 3}}}
	checkParse(t, "layout l\nsection s\ncross t s 500 0 100\njoint t 0 t 3\n", loop, 0, api.OK)
}

// P8.2: each form with words too few and too many, at any place.
func TestParseNumberOfWords(t *testing.T) {
	for _, n := range firstLines() {
		w := strings.Split(linesOf(yardText)[n-1], " ")
		for i := 1; i < len(w); i++ {
			checkError(t, replaced(yardText, n, strings.Join(w[:i], " ")), n, api.ErrSyntax)
			checkError(t, replaced(yardText, n, strings.Join(slices.Delete(slices.Clone(w), i, i+1), " ")), n, api.ErrSyntax)
		}
		for _, more := range []string{"0", "1", "w", "p", "100", "-"} {
			checkError(t, replaced(yardText, n, strings.Join(append(slices.Clone(w), more), " ")), n, api.ErrSyntax)
			checkError(t, replaced(yardText, n, strings.Join(append([]string{more}, w...), " ")), n, api.ErrSyntax)
		}
	}
}

// P8.2: lines whose first word begins no form.
func TestParseFirstWords(t *testing.T) {
	for _, n := range firstLines() {
		w := strings.Split(linesOf(yardText)[n-1], " ")
		for _, first := range []string{
			"Layout", "LAYOUT", "layouts", "layou", "Section", "sections", "Track", "TRACK", "tracks", "trac", "point", "Points", "crossing", "Cross", "crosses",
			"Joint", "joints", "Signal", "signals", "Balise", "balises", "element", "#", "x", "0", "1", "-", "~", "\"track\"", "track,", w[0] + "_", "_" + w[0], w[0] + w[0],
		} {
			checkError(t, replaced(yardText, n, strings.Join(append([]string{first}, w[1:]...), " ")), n, api.ErrSyntax)
		}
	}
}

// P8.2: the words of the kinds of elements stand for these kinds.
func TestParseKinds(t *testing.T) {
	for first, kind := range map[string]int{"track": api.ElTrack, "cross": api.ElCross} {
		want := one()
		want.Elements[0].Kind = kind
		checkParse(t, "layout l\nsection s\n"+first+" t s 500 0 100\n", want, 0, api.OK)
		checkError(t, "layout l\nsection s\n"+first+" t s 500 0 100 100\n", 3, api.ErrSyntax)
	}
	want := one()
	want.Elements[0].Kind, want.Elements[0].Slow = api.ElPoint, 100
	checkParse(t, "layout l\nsection s\npoints t s 500 0 100 100\n", want, 0, api.OK)
	checkError(t, "layout l\nsection s\npoints t s 500 0 100\n", 3, api.ErrSyntax)
}

// numbersOf are the positions of the numbers in lines, by their first word.
func numbersOf(first string) []int {
	return map[string][]int{
		"track": {3, 4, 5}, "points": {3, 4, 5, 6}, "cross": {3, 4, 5}, "joint": {2, 4}, "signal": {3, 4}, "balise": {1, 3},
	}[first]
}

// P8.2: words in the place of numbers that words.Int does not accept, and numbers that layout.Check does not.
func TestParseNumbers(t *testing.T) {
	for _, n := range firstLines() {
		w := strings.Split(linesOf(yardText)[n-1], " ")
		for _, at := range numbersOf(w[0]) {
			with := func(s string) string {
				changed := slices.Clone(w)
				changed[at] = s
				return replaced(yardText, n, strings.Join(changed, " "))
			}
			for _, s := range []string{
				"-", "-0", "+0", "+1", "+" + w[at], "0" + w[at], "00", "01", "-01", "007", "--1", "1-", "1.0", "1e3", "0x1f", "1_000", "1,2", "x", "w", "one", "'1'",
				"99999999999999999999", "-99999999999999999999", "9223372036854775808", "-9223372036854775809", "18446744073709551617", strings.Repeat("9", 64),
			} {
				checkError(t, with(s), n, api.ErrSyntax)
			}
			for _, s := range []string{"9223372036854775807", "-9223372036854775808", "4294967296", "-4294967295"} {
				checkError(t, with(s), 0, api.ErrArg)
			}
		}
	}
	// Negative numbers and such of many digits are forms of numbers.
	checkParse(t, strings.Replace(yardText, "-50 2000", "-49 2001", 1), func() api.Layout {
		l := yard()
		l.Elements[0].Grade, l.Elements[0].Speed = -49, 2001
		return l
	}(), 0, api.OK)
}

// namesOf are the positions of sections and elements in lines, by their first word.
func namesOf(first string) []int {
	return map[string][]int{"track": {2}, "points": {2}, "cross": {2}, "joint": {1, 3}, "signal": {2}, "balise": {2}}[first]
}

// P8.2: sections and elements that are not names of earlier lines. A name that is that of another kind of parts is none, either.
func TestParseNotFound(t *testing.T) {
	notThere := map[string][]string{"section": {"joint", "out", "q", "s", "section"}, "element": {"track", "section", "s"}}
	for _, n := range firstLines() {
		w := strings.Split(linesOf(yardText)[n-1], " ")
		kind := "element"
		if n < 11 {
			kind = "section"
		}
		for _, at := range namesOf(w[0]) {
			for _, s := range append(notThere[kind], "x", "0", "1", "-1", "P", "W", "W1", "p_", "pp", "t", "-", "~", strings.Repeat("p", 64)) {
				changed := slices.Clone(w)
				changed[at] = s
				checkError(t, replaced(yardText, n, strings.Join(changed, " ")), n, api.ErrNotFound)
				// A line that does not have its form has no other error, wherever that is.
				checkError(t, replaced(yardText, n, strings.Join(append(changed, "1"), " ")), n, api.ErrSyntax)
				for _, number := range numbersOf(w[0]) {
					wrong := slices.Clone(changed)
					wrong[number] = "01"
					checkError(t, replaced(yardText, n, strings.Join(wrong, " ")), n, api.ErrSyntax)
				}
				if at < len(w)-1 {
					checkError(t, replaced(yardText, n, strings.Join(changed[:len(w)-1], " ")), n, api.ErrSyntax)
				}
			}
		}
	}
	// The name of the line itself, of a later line, and of no line at all.
	checkError(t, "layout l\ntrack t t 500 0 100\n", 2, api.ErrNotFound)
	checkError(t, "layout l\nsection s\ntrack t t 500 0 100\n", 3, api.ErrNotFound)
	checkError(t, "layout l\ntrack t s 500 0 100\nsection s\n", 2, api.ErrNotFound)
	checkError(t, "layout l\nsection s\njoint t 0 t 1\ntrack t s 500 0 100\n", 3, api.ErrNotFound)
	checkError(t, "layout l\nsection s\nsignal t t 0 1\n", 3, api.ErrNotFound)
	checkError(t, "layout l\nbalise 1 l 0\n", 2, api.ErrNotFound)
}

// P8.2: no line stands behind one of a later form; lines of the same place stand behind each other.
func TestParsePlaces(t *testing.T) {
	lines := linesOf(yardText)
	for _, a := range firstLines() {
		for _, b := range firstLines() {
			// The text up to the last line with the place of the line a, and then the line b.
			end := a
			for end < len(lines) && placeOf(lines[end]) == placeOf(lines[a-1]) {
				end++
			}
			text := textOf(append(slices.Clone(lines[:end]), lines[b-1]))
			want, n, e := wantParse(text)
			checkParse(t, text, want, n, e)
			outOfPlace := b == 1 || placeOf(lines[b-1]) < placeOf(lines[a-1])
			if outOfPlace && n != end+1 || outOfPlace != (e == api.ErrSyntax) {
				t.Errorf("line %d behind line %d has the error %d", b, a, e)
			}
		}
	}
}

// placeOf is the place of a line that has a form.
func placeOf(line string) int {
	place, _ := formOf(strings.Split(line, " "))
	return place
}

// partOf is the kind of parts that a line describes.
func partOf(line string) string {
	first, _, _ := strings.Cut(line, " ")
	if slices.Contains([]string{"track", "points", "cross"}, first) {
		return "element"
	}
	return first
}

// P8.2: the line layout is the first one and the only one.
func TestParseLineLayout(t *testing.T) {
	lines := linesOf(yardText)
	for at := 1; at <= len(lines); at++ {
		checkError(t, textOf(slices.Insert(slices.Clone(lines), at, "layout section")), at+1, api.ErrSyntax)
		checkError(t, textOf(slices.Insert(slices.Clone(lines), at, "layout other")), at+1, api.ErrSyntax)
		checkError(t, textOf(lines[at:]), 1, api.ErrSyntax)
	}
	checkError(t, "layout l\nlayout l\n", 2, api.ErrSyntax)
	for _, first := range []string{"section s", "track t s 500 0 100", "points t s 500 0 100 100", "cross t s 500 0 100", "joint t 0 t 1", "signal t t 1 0", "balise 1 t 0", "x"} {
		checkError(t, first+"\n", 1, api.ErrSyntax)
		checkError(t, first+"\n"+yardText, 1, api.ErrSyntax)
	}
}

// P8.2: a line out of its place has this error, even if its names are not those of earlier lines; without a form it has it anywhere.
func TestParseOutOfPlaceFirst(t *testing.T) {
	checkError(t, yardText+"track t unknown 500 0 100\n", 22, api.ErrSyntax)
	checkError(t, yardText+"joint unknown 0 unknown 1\n", 22, api.ErrSyntax)
	checkError(t, yardText+"signal s9 unknown 0 1\n", 22, api.ErrSyntax)
	checkError(t, yardText+"balise 4 unknown 1\n", 22, api.ErrNotFound)
	checkError(t, yardText+"balise unknown unknown 1\n", 22, api.ErrSyntax)
	checkError(t, "balise 4 unknown 1\n"+yardText, 1, api.ErrSyntax)
}

// P8.2: of several lines with errors, the first one counts, and all of them before what layout.Check says.
func TestParseFirstError(t *testing.T) {
	unknown := map[string]string{"element": "track t unknown 500 0 100", "joint": "joint unknown 0 w 1", "signal": "signal s9 unknown 0 1", "balise": "balise 4 unknown 1"}
	lines := linesOf(yardText)
	for later := range lines {
		for earlier := range later {
			changed := slices.Clone(lines)
			changed[later], changed[earlier] = "#", "#"
			checkError(t, textOf(changed), earlier+1, api.ErrSyntax)
			if line, ok := unknown[partOf(lines[earlier])]; ok {
				changed[earlier] = line
				checkError(t, textOf(changed), earlier+1, api.ErrNotFound)
			}
			if line, ok := unknown[partOf(lines[later])]; ok {
				changed[later], changed[earlier] = line, "#"
				checkError(t, textOf(changed), earlier+1, api.ErrSyntax)
			}
		}
	}
	checkError(t, "layout No\nsection s\ntrack t s 1 0 0\ntrack t s 1 0 0\nbalise 0 t\n", 5, api.ErrSyntax)
	checkError(t, "layout No\nsection s\ntrack t s 1 0 0\ntrack t s 1 0 0\nbalise 0 u 0\n", 5, api.ErrNotFound)
	checkError(t, "layout No\nsection s\ntrack t s 1 0 0\ntrack t s 1 0 0\nbalise 0 t 0\n", 0, api.ErrName)
	checkError(t, strings.Repeat("section s\n", 100), 1, api.ErrSyntax)
	checkError(t, "layout l\n"+strings.Repeat("section s\n", 100)+"track t s 500 0 100 1\n", 102, api.ErrSyntax)
}

// P8.2: texts that words.Lines does not accept, whatever their lines are, and the empty text.
func TestParseOfNoText(t *testing.T) {
	checkError(t, "", 1, api.ErrSyntax)
	checkError(t, "\n", 1, api.ErrSyntax)
	checkError(t, " ", 1, api.ErrSyntax)
	checkError(t, "layout l", 1, api.ErrSyntax)
	checkError(t, strings.TrimSuffix(yardText, "\n"), 21, api.ErrSyntax)
	checkError(t, yardText+"\n", 22, api.ErrSyntax)
	checkError(t, yardText+" ", 22, api.ErrSyntax)
	checkError(t, yardText+"balise 4 w 1", 22, api.ErrSyntax)
	checkError(t, "\n"+yardText, 1, api.ErrSyntax)
	checkError(t, strings.ReplaceAll(yardText, "\n", "\r\n"), 1, api.ErrSyntax)
	for i, line := range linesOf(yardText) {
		for _, s := range []string{"", " " + line, line + " ", strings.Replace(line, " ", "  ", 1), strings.Replace(line, " ", "\t", 1), line + "\x00", line + "é", line + strings.Repeat("x", 65)} {
			checkError(t, replaced(yardText, i+1, s), i+1, api.ErrSyntax)
		}
	}
	// Such a line counts before an earlier one with another error.
	checkError(t, "layout l\ntrack t s 500 0 100\nsection  s\n", 3, api.ErrSyntax)
	checkError(t, "x\nlayout l\n\n", 3, api.ErrSyntax)
	checkError(t, "layout l\nsection s\ntrack t s 500 0 100", 3, api.ErrSyntax)
}

// P8.2: texts as long as texts can be, and longer ones.
func TestParseOfLongTexts(t *testing.T) {
	start := "layout l\n" + strings.Repeat("section s\n", 3270)
	full := start + "section " + strings.Repeat("s", api.MaxText-len(start)-len("section \n")) + "\n"
	if len(full) != api.MaxText {
		t.Fatalf("the text has %d bytes", len(full))
	}
	// The layout has too many sections. An error of a line shows that the lines are read.
	checkError(t, full, 0, api.ErrLimit)
	checkError(t, strings.Replace(full, "section s\nsection ss", "section s\nsections s", 1), 3272, api.ErrSyntax)
	checkError(t, strings.Replace(full, "section s\nsection ss", "section s\nsections ss", 1), 0, api.ErrLimit)
	checkError(t, "x\n"+full, 0, api.ErrLimit)
	checkError(t, strings.Repeat("x", api.MaxText+1), 0, api.ErrLimit)
	checkError(t, strings.Repeat("\n", 1<<20), 0, api.ErrLimit)

	many := "layout l\nsection s\n" + strings.Repeat("cross t s 500 0 100\n", 700) + strings.Repeat("joint t 0 t 3\n", 1200)
	checkError(t, many, 0, api.ErrLimit)
	checkError(t, many+"joint t 0 u 3\n", 1903, api.ErrNotFound)
}

// P8.2: texts of layouts that layout.Check does not accept.
func TestParseOfNotValid(t *testing.T) {
	for _, c := range []struct {
		from, to string
		e        api.Errno
	}{
		{"layout section", "layout Section", api.ErrName},
		{"layout section", "layout 1", api.ErrName},
		{"layout section", "layout abcdefghijklm", api.ErrName},
		{"section w", "section w\nsection W", api.ErrName},
		{"track t2", "track 2", api.ErrName},
		{"signal s w", "signal 1 w", api.ErrName},
		{"section w", "section w\nsection w", api.ErrDuplicate},
		{"track t2", "track w", api.ErrDuplicate},
		{"signal s w", "signal p w", api.ErrDuplicate},
		{"-50 2000", "-51 2000", api.ErrArg},
		{"2000 1000", "2000 2001", api.ErrArg},
		{"2000 1000", "2000 -1", api.ErrArg},
		{"track w w 1000", "track w w 499", api.ErrArg},
		{"track w w 1000 10 2000", "track w w 1000 10 99", api.ErrArg},
		{"section w", "section w\nsection z", api.ErrArg},
		{"joint w 1", "joint w 2", api.ErrArg},
		{"joint w 1", "joint w -1", api.ErrArg},
		{"joint w 1 p 0", "joint w 1 w 1", api.ErrArg},
		{"joint q 2", "joint w 1", api.ErrDuplicate},
		{"signal s w 1", "signal s w 2", api.ErrArg},
		{"1 500", "1 -1", api.ErrArg},
		{"signal s w 1", "signal s p 1", api.ErrDuplicate},
		{"joint w 1 p 0\n", "", api.ErrUnsafe},
		{"signal s w 1", "signal s p 2", api.ErrUnsafe},
		{"balise 7", "balise 0", api.ErrArg},
		{"balise 7", "balise -7", api.ErrArg},
		{"balise 7", "balise 1073741825", api.ErrArg},
		{"balise 7 w 1000", "balise 7 w 1001", api.ErrArg},
		{"balise 7", "balise 3", api.ErrDuplicate},
	} {
		checkError(t, strings.Replace(yardText, c.from, c.to, 1), 0, c.e)
	}
}

// P8.2: texts of layouts with one part more than the limits permit; the number of joints has no limit of its own.
func TestParseBeyondLimits(t *testing.T) {
	s, _ := plan.Print(broad())
	with := func(line, before string) string { return strings.Replace(s, "\n"+before, "\n"+line+"\n"+before, 1) }
	checkError(t, with("section more", "cross element_0000 "), 0, api.ErrLimit)
	checkError(t, with("track more section_0000 500 0 100", "joint element_0000 "), 0, api.ErrLimit)
	checkError(t, with("signal more element_0020 3 0", "balise 1073741824 "), 0, api.ErrLimit)
	checkError(t, s+"balise 1 element_0000 0\n", 0, api.ErrLimit)

	circle := broad()
	circle.Joints = append(circle.Joints, api.Joint{A: api.End{El: 31, Side: 1}, B: api.End{El: 0, Side: 0}})
	checkParse(t, with("joint element_0031 1 element_0000 0", "signal signal_00000 "), circle, 0, api.OK)
}

// P8.3: layouts are restored from their text, which has a line more than they have parts.
func checkRestored(t *testing.T, l api.Layout) {
	t.Helper()
	s, e := plan.Print(l)
	if e != api.OK {
		t.Fatalf("Print(%s) is %d", short(fmt.Sprint(l)), e)
	}
	checkParse(t, s, l, 0, api.OK)
	parts := len(l.Sections) + len(l.Elements) + len(l.Joints) + len(l.Signals) + len(l.Balises)
	if lines, _, _ := words.Lines(s); len(lines) != parts+1 {
		t.Errorf("the text of %d parts has %d lines", parts, len(lines))
	}
	if again, n, e := wantParse(s); !same(again, l) || n != 0 || e != api.OK {
		t.Errorf("Print(%s) = %s", short(fmt.Sprint(l)), short(s))
	}
}

// randomLayout is a valid layout with parts of all kinds, in any order and number.
func randomLayout(source *rand.Rand) api.Layout {
	l := api.Layout{Name: randomName(source, "l", 0)}
	for i := range 1 + source.Intn(api.MaxSections) {
		l.Sections = append(l.Sections, randomName(source, "abc", i))
	}
	var ends []api.End
	for i := range len(l.Sections) + source.Intn(api.MaxElements+1-len(l.Sections)) {
		e := api.Element{
			Name: randomName(source, "abc", i), Kind: 1 + source.Intn(3), Length: api.MinLength + source.Intn(1<<(1+source.Intn(19))),
			Grade: source.Intn(2*api.MaxGrade+1) - api.MaxGrade, Speed: 100 + source.Intn(api.MaxSpeed-99), Section: i,
		}
		if i >= len(l.Sections) {
			e.Section = source.Intn(len(l.Sections))
		}
		if e.Kind == api.ElPoint {
			e.Slow = 100 + source.Intn(e.Speed-99)
		}
		l.Elements = append(l.Elements, e)
		for side := range e.Kind + 1 {
			ends = append(ends, api.End{El: i, Side: side})
		}
	}
	source.Shuffle(len(ends), func(i, j int) { ends[i], ends[j] = ends[j], ends[i] })
	for i := range source.Intn(len(ends)/2 + 1) {
		l.Joints = append(l.Joints, api.Joint{A: ends[2*i], B: ends[2*i+1]})
		for _, at := range ends[2*i : 2*i+2] {
			other := l.Elements[ends[2*i].El].Section != l.Elements[ends[2*i+1].El].Section
			if other && len(l.Signals) < api.MaxSignals && source.Intn(2) > 0 {
				l.Signals = append(l.Signals, api.Signal{Name: randomName(source, "abc", len(l.Signals)), At: at, Overlap: source.Intn(1 << (1 + source.Intn(19)))})
			}
		}
	}
	for i := range source.Intn(api.MaxBalises + 1) {
		el := source.Intn(len(l.Elements))
		l.Balises = append(l.Balises, api.Balise{Id: 1 + i + source.Intn(1<<source.Intn(26))*32, El: el, Offset: source.Intn(l.Elements[el].Length + 1)})
	}
	return l
}

// randomName is a name that differs from those with other numbers.
func randomName(source *rand.Rand, letters string, i int) string {
	return letters[source.Intn(len(letters)):][:1] + strings.Repeat("_", source.Intn(8)) + strconv.Itoa(i)
}

// P8.3
func TestLayoutsAreRestored(t *testing.T) {
	for _, l := range []api.Layout{line(), yard(), broad(), one()} {
		checkRestored(t, l)
	}
	source := rand.New(rand.NewSource(83))
	for range 2000 {
		checkRestored(t, randomLayout(source))
	}
}

// P8.2 and P8.3: changed texts have the results of the forms, and those that are accepted are the text of their layout.
func TestParseOfAnyText(t *testing.T) {
	source := rand.New(rand.NewSource(82))
	texts := []string{lineText, yardText, "layout l\nsection s\ntrack t s 500 0 100\n"}
	for range 5 {
		s, _ := plan.Print(randomLayout(source))
		texts = append(texts, s)
	}
	seen := map[api.Errno]int{}
	for range 15000 {
		s := texts[source.Intn(len(texts))]
		for range source.Intn(3) {
			s = changed(source, s)
		}
		want, n, e := wantParse(s)
		checkParse(t, s, want, n, e)
		seen[e]++
		if l, _, e := plan.Parse(s); e == api.OK {
			checkPrint(t, "what Parse accepted", l, s, api.OK)
		}
	}
	for _, e := range []api.Errno{api.OK, api.ErrLimit, api.ErrSyntax, api.ErrNotFound, api.ErrArg, api.ErrDuplicate, api.ErrName, api.ErrUnsafe} {
		if seen[e] < 5 {
			t.Errorf("only %d texts had the result %d", seen[e], e)
		}
	}
}

// changed is a text with a line or a word that is changed, moved, repeated or missing.
func changed(source *rand.Rand, s string) string {
	if s == "" {
		return "layout l\n"
	}
	lines := linesOf(s)
	i, j := source.Intn(len(lines)), source.Intn(len(lines))
	w := strings.Split(lines[i], " ")
	k, other := source.Intn(len(w)), strings.Split(lines[j], " ")
	switch source.Intn(9) {
	case 0:
		lines = slices.Delete(lines, i, i+1)
	case 1:
		lines = slices.Insert(lines, i, lines[j])
	case 2:
		lines[i], lines[j] = lines[j], lines[i]
	case 3:
		lines = lines[:i+1]
	case 4, 5:
		w[k] = other[source.Intn(len(other))]
		lines[i] = strings.Join(w, " ")
	case 6:
		w = slices.Insert(w, k, other[source.Intn(len(other))])
		lines[i] = strings.Join(w, " ")
	case 7:
		lines[i] = strings.Join(slices.Delete(w, k, k+1), " ")
	case 8:
		w[k] = []string{"0", "1", "2", "500", "-1", "01", "x", "Q", "track", "points", "cross", "layout", "99999999999999999999"}[source.Intn(13)]
		lines[i] = strings.Join(w, " ")
	}
	if len(lines) == 0 {
		return ""
	}
	return textOf(lines)
}

// P8.1 and P8.2: results share no memory with one another, so that changing one changes no other.
func TestResultsAreNew(t *testing.T) {
	a, _, _ := plan.Parse(yardText)
	b, _, _ := plan.Parse(yardText)
	a.Sections[0], a.Elements[0], a.Joints[0], a.Signals[0], a.Balises[0] = "", api.Element{}, api.Joint{}, api.Signal{}, api.Balise{}
	if !reflect.DeepEqual(b, yard()) {
		t.Errorf("a change of a result changed another one to %+v", b)
	}
	checkParse(t, yardText, yard(), 0, api.OK)
}
