package words_test

import (
	"bytes"
	"fmt"
	"math"
	"math/big"
	"math/rand"
	"regexp"
	"slices"
	"strconv"
	"strings"
	"testing"

	"signalling/api"
	"signalling/words"
)

// The forms of the chapter. They know bytes from 0 to 127 only; other bytes match none of their classes.
var (
	lineForm    = regexp.MustCompile(`\A[!-~]{1,64}(?: [!-~]{1,64})*\z`)
	wordForm    = regexp.MustCompile(`\A[!-~]{1,64}\z`)
	decimalForm = regexp.MustCompile(`\A(?:0|-?[1-9][0-9]*)\z`)
	nameForm    = regexp.MustCompile(`\A[a-z][a-z0-9_]{0,11}\z`)
)

// wantLines divides a text by these forms. SplitAfter leaves an empty part behind the last line feed.
func wantLines(s string) ([][]string, int, api.Errno) {
	if len(s) > 32768 {
		return nil, 0, api.ErrLimit
	}
	var l [][]string
	for i, part := range strings.SplitAfter(s, "\n") {
		if part == "" {
			continue
		}
		if !strings.HasSuffix(part, "\n") || !lineForm.MatchString(part[:len(part)-1]) {
			return nil, i + 1, api.ErrSyntax
		}
		l = append(l, strings.Split(part[:len(part)-1], " "))
	}
	return l, 0, api.OK
}

// wantInt reads a number by these forms and big numbers.
func wantInt(s string) (int, api.Errno) {
	if !decimalForm.MatchString(s) {
		return 0, api.ErrSyntax
	}
	exact, _ := new(big.Int).SetString(s, 10)
	if !exact.IsInt64() {
		return 0, api.ErrOverflow
	}
	return int(exact.Int64()), api.OK
}

// short is the form in which a text stands in a message: of long ones only the beginning.
func short(s string) string {
	if len(s) > 40 {
		return fmt.Sprintf("%q.. of %d bytes", s[:40], len(s))
	}
	return fmt.Sprintf("%q", s)
}

func sameLines(a, b [][]string) bool {
	return slices.EqualFunc(a, b, slices.Equal[[]string])
}

func checkLines(t *testing.T, s string, want [][]string, wantN int, wantE api.Errno) {
	t.Helper()
	if l, n, e := words.Lines(s); !sameLines(l, want) || n != wantN || e != wantE {
		t.Errorf("Lines(%s) = %s, %d, %d; want %s, %d, %d", short(s), short(fmt.Sprintf("%q", l)), n, e, short(fmt.Sprintf("%q", want)), wantN, wantE)
	}
}

func checkJoin(t *testing.T, l [][]string, want string, wantE api.Errno) {
	t.Helper()
	if s, e := words.Join(l); s != want || e != wantE {
		t.Errorf("Join(%s) = %s, %d; want %s, %d", short(fmt.Sprintf("%q", l)), short(s), e, short(want), wantE)
	}
}

func checkInt(t *testing.T, s string, want int, wantE api.Errno) {
	t.Helper()
	if n, e := words.Int(s); n != want || e != wantE {
		t.Errorf("Int(%s) = %d, %d; want %d, %d", short(s), n, e, want, wantE)
	}
}

func checkList(t *testing.T, s string, want []int, wantE api.Errno) {
	t.Helper()
	if l, e := words.List(s); !slices.Equal(l, want) || e != wantE {
		t.Errorf("List(%s) = %d, %d; want %d, %d", short(s), l, e, want, wantE)
	}
}

// randomText is a text of at most most of these parts.
func randomText(source *rand.Rand, parts []string, most int) string {
	var s strings.Builder
	for range source.Intn(most + 1) {
		s.WriteString(parts[source.Intn(len(parts))])
	}
	return s.String()
}

// bytesAndOthers are the texts of each single byte, and characters and parts of characters that have more bytes.
func bytesAndOthers() []string {
	var l []string
	for b := range 256 {
		l = append(l, string([]byte{byte(b)}))
	}
	return append(l, "é", "\u00a0", "\u2028", "\ufffd", "\U0001f682", "\u0661", "\uff11", "\uff41", "\xc3", "\xe2\x80", "\xc1\xa1", "\xf4\x90\x80\x80")
}

// numbers are numbers of both signs and of each number of digits, the bounds of int among them.
func numbers() []int {
	l := []int{math.MinInt, math.MinInt + 1, math.MaxInt - 1, math.MaxInt}
	for n := range 1200 {
		l = append(l, n, -n)
	}
	for power := 1; power < math.MaxInt/10; power *= 10 {
		l = append(l, power*10-1, power*10, power*10+1, -power*10-1, -power*10, -power*10+1)
	}
	for shift := range 64 {
		l = append(l, 1<<shift, -1<<shift, 1<<shift-1)
	}
	return l
}

// P5.1
func TestLines(t *testing.T) {
	long := strings.Repeat("x", 64)
	for _, c := range []struct {
		s string
		l [][]string
	}{
		{"", nil},
		{"a\n", [][]string{{"a"}}},
		{"a b\nc\n", [][]string{{"a", "b"}, {"c"}}},
		{"a a a\na\na a\n", [][]string{{"a", "a", "a"}, {"a"}, {"a", "a"}}},
		{"! ~\n", [][]string{{"!", "~"}}},
		{"track t1 20000,-3 # \"\n", [][]string{{"track", "t1", "20000,-3", "#", "\""}}},
		{long + "\n", [][]string{{long}}},
		{long + " " + long + " " + long + "\n" + long + "\n", [][]string{{long, long, long}, {long}}},
		{"0 -0 007\n", [][]string{{"0", "-0", "007"}}},
	} {
		checkLines(t, c.s, c.l, 0, api.OK)
	}
}

// P5.1: the number is that of the first line that is not as described.
func TestLinesOfNoText(t *testing.T) {
	long := strings.Repeat("x", 65)
	for _, c := range []struct {
		s string
		n int
	}{
		{"\n", 1},
		{"\n\n", 1},
		{"a", 1},
		{" ", 1},
		{" \n", 1},
		{"  \n", 1},
		{"a b\nc", 2},
		{"a\nb\n ", 3},
		{"a\nb\n\n", 3},
		{"a\n\nb\n", 2},
		{"\na\n", 1},
		{"a  b\n", 1},
		{" a\n", 1},
		{"a \n", 1},
		{"a\nb \nc\n", 2},
		{"a\n b\nc\n", 2},
		{"a\tb\n", 1},
		{"a\n\tb\n", 2},
		{"a\r\nb\r\n", 1},
		{"a\nb\r\n", 2},
		{"a\rb\n", 1},
		{"a\vb\n", 1},
		{"a\x00\n", 1},
		{"\x00\n", 1},
		{"a\nb\x1f\n", 2},
		{"a\nb\x7f\n", 2},
		{"a\nb\x80\n", 2},
		{"a\nb\xff\n", 2},
		{"a\npoints é\n", 2},
		{"a\nb\u00a0c\n", 2},
		{"a\n\ufffd\n", 2},
		{"a\nb\u2028c\n", 2},
		{"a\u0085b\n", 1},
		{long + "\n", 1},
		{"a\n" + long + "\n", 2},
		{"a\na " + long + "\n", 2},
		{"a\n" + long + " a\n", 2},
		{long[:64] + "\n" + long + "\n", 2},

		{"a\n\nb", 2},
		{"a\nb \n\nc", 2},
		{"a\nb\x7f\nc", 2},
		{"a\nb\nc\x7f", 3},
		{strings.Repeat("a\n", 1000) + "b", 1001},
		{strings.Repeat("a\n", 1000) + "\n" + strings.Repeat("a\n", 1000), 1001},
	} {
		checkLines(t, c.s, nil, c.n, api.ErrSyntax)
	}
}

// P5.1: a text may have 2^15 bytes; of a longer one nothing else is said.
func TestLinesLimit(t *testing.T) {
	full := strings.Repeat("a\n", 1<<14)
	checkLines(t, full, slices.Repeat([][]string{{"a"}}, 1<<14), 0, api.OK)
	oneLine := strings.Repeat("abc ", 1<<13)
	oneLine = oneLine[:len(oneLine)-1] + "\n"
	checkLines(t, oneLine, [][]string{slices.Repeat([]string{"abc"}, 1<<13)}, 0, api.OK)
	checkLines(t, full[:len(full)-1]+" ", nil, 1<<14, api.ErrSyntax)
	checkLines(t, "\n"+full[:len(full)-1], nil, 1, api.ErrSyntax)
	checkLines(t, strings.Repeat("!", 1<<15), nil, 1, api.ErrSyntax)

	for _, s := range []string{full + "\n", full + "a", "a" + full, "\n" + full, full + full, strings.Repeat("!", 1<<15+1), strings.Repeat("\x00", 1<<15+1), strings.Repeat("a\n", 1<<20)} {
		checkLines(t, s, nil, 0, api.ErrLimit)
	}
}

// P5.1: each byte, and each character of several bytes, in each place of a word.
func TestLinesOfEachByte(t *testing.T) {
	for _, c := range bytesAndOthers() {
		for _, s := range []string{c, c + "b", "a" + c, "a" + c + "b", "a " + c, c + " b", "a " + c + " b", "a\n" + c + "\nb"} {
			want, n, e := wantLines(s + "\n")
			checkLines(t, s+"\n", want, n, e)
		}
	}
}

// P5.1
func TestLinesOfAnyText(t *testing.T) {
	source := rand.New(rand.NewSource(51))
	parts := []string{"a", "b", "a b", "~!", " ", "\n", "b\n", "c\n", "d\n", "e\n", "\x7f", "é", strings.Repeat("y", 63), strings.Repeat("z", 64)}
	accepted := 0
	for range 40000 {
		s := randomText(source, parts, 6)
		want, n, e := wantLines(s)
		checkLines(t, s, want, n, e)
		if e == api.OK && s != "" {
			accepted++
		}
	}
	if accepted < 3000 {
		t.Errorf("only %d texts were accepted", accepted)
	}
}

// P5.1: lines share no memory: one can be changed and continued, and the others stay.
func TestLinesAreNewMemory(t *testing.T) {
	const s = "a b\nc d\ne\n"
	l, _, _ := words.Lines(s)
	l[0] = append(l[0], "x")
	l[0][1] = "y"
	l[1] = append(l[1][:1], "z")
	if want := [][]string{{"a", "y", "x"}, {"c", "z"}, {"e"}}; !sameLines(l, want) {
		t.Errorf("the changed lines are %q, want %q", l, want)
	}
	checkLines(t, s, [][]string{{"a", "b"}, {"c", "d"}, {"e"}}, 0, api.OK)
}

// P5.2
func TestJoin(t *testing.T) {
	long := strings.Repeat("x", 64)
	for _, c := range []struct {
		l [][]string
		s string
		e api.Errno
	}{
		{nil, "", api.OK},
		{[][]string{}, "", api.OK},
		{[][]string{{"a"}}, "a\n", api.OK},
		{[][]string{{"a", "b"}, {"c"}}, "a b\nc\n", api.OK},
		{[][]string{{"~", "!", "-"}, {"a"}, {"a"}}, "~ ! -\na\na\n", api.OK},
		{[][]string{{long, long}}, long + " " + long + "\n", api.OK},

		{[][]string{{}}, "", api.ErrArg},
		{[][]string{nil}, "", api.ErrArg},
		{[][]string{{"a"}, {}}, "", api.ErrArg},
		{[][]string{{}, {"a"}}, "", api.ErrArg},
		{[][]string{{""}}, "", api.ErrArg},
		{[][]string{{"a", ""}}, "", api.ErrArg},
		{[][]string{{"", "a"}}, "", api.ErrArg},
		{[][]string{{"a", "", "b"}}, "", api.ErrArg},
		{[][]string{{"a b"}}, "", api.ErrArg},
		{[][]string{{"a\n"}}, "", api.ErrArg},
		{[][]string{{"a"}, {"b", "c\nd"}}, "", api.ErrArg},
		{[][]string{{"\n"}}, "", api.ErrArg},
		{[][]string{{" "}}, "", api.ErrArg},
		{[][]string{{"a\t"}}, "", api.ErrArg},
		{[][]string{{"é"}}, "", api.ErrArg},
		{[][]string{{"a\xff"}}, "", api.ErrArg},
		{[][]string{{"\ufffd"}}, "", api.ErrArg},
		{[][]string{{long + "x"}}, "", api.ErrArg},
		{[][]string{{"a"}, {"a", long + "x"}}, "", api.ErrArg},
	} {
		checkJoin(t, c.l, c.s, c.e)
	}
	for _, c := range bytesAndOthers() {
		for _, s := range []string{c, c + "b", "a" + c, "a" + c + "b"} {
			text, e := "a "+s+"\n", api.OK
			if !wordForm.MatchString(s) {
				text, e = "", api.ErrArg
			}
			checkJoin(t, [][]string{{"a", s}}, text, e)
		}
	}
}

// P5.2: a text may have 2^15 bytes, and a line or a word that is not as described counts first, wherever it stands.
func TestJoinLimit(t *testing.T) {
	full := slices.Repeat([][]string{{"a"}}, 1<<14)
	checkJoin(t, full, strings.Repeat("a\n", 1<<14), api.OK)
	checkJoin(t, [][]string{slices.Repeat([]string{"abc"}, 1<<13)}, strings.Repeat("abc ", 1<<13-1)+"abc\n", api.OK)

	oneMore := slices.Clone(full)
	oneMore[777] = []string{"ab"}
	checkJoin(t, oneMore, "", api.ErrLimit)
	oneMore[777], oneMore[1<<14-1] = []string{"a"}, []string{"ab"}
	checkJoin(t, oneMore, "", api.ErrLimit)
	checkJoin(t, append(slices.Clone(full), []string{"a"}), "", api.ErrLimit)
	checkJoin(t, [][]string{append(slices.Repeat([]string{"abc"}, 1<<13-1), "abcd")}, "", api.ErrLimit)
	checkJoin(t, slices.Repeat([][]string{slices.Repeat([]string{"ab"}, 1<<10)}, 1<<8), "", api.ErrLimit)

	checkJoin(t, append(slices.Clone(oneMore), nil), "", api.ErrArg)
	checkJoin(t, append(slices.Clone(oneMore), []string{"a", "b c"}), "", api.ErrArg)
	checkJoin(t, append([][]string{{""}}, oneMore...), "", api.ErrArg)
	checkJoin(t, [][]string{append(slices.Repeat([]string{"abc"}, 1<<14), "")}, "", api.ErrArg)
}

// P5.2: the lines of a caller are not changed, and room behind them is not used.
func TestJoinKeepsItsArgument(t *testing.T) {
	all := []string{"a", "b", "c", "d"}
	l := [][]string{all[:2], all[3:]}
	checkJoin(t, l, "a b\nd\n", api.OK)
	if !slices.Equal(all, []string{"a", "b", "c", "d"}) || !sameLines(l, [][]string{{"a", "b"}, {"d"}}) {
		t.Errorf("Join changed its argument to %q, of %q", l, all)
	}
}

// P5.3
func TestInt(t *testing.T) {
	for _, c := range []struct {
		s string
		n int
		e api.Errno
	}{
		{"0", 0, api.OK},
		{"7", 7, api.OK},
		{"10", 10, api.OK},
		{"-1", -1, api.OK},
		{"-12", -12, api.OK},
		{"-100", -100, api.OK},
		{"9223372036854775807", math.MaxInt, api.OK},
		{"-9223372036854775808", math.MinInt, api.OK},
		{"-9223372036854775807", -math.MaxInt, api.OK},
		{"1000000000000000000", 1000000000000000000, api.OK},

		{"9223372036854775808", 0, api.ErrOverflow},
		{"-9223372036854775809", 0, api.ErrOverflow},
		{"9223372036854775810", 0, api.ErrOverflow},
		{"10000000000000000000", 0, api.ErrOverflow},
		{"-10000000000000000000", 0, api.ErrOverflow},
		{"18446744073709551615", 0, api.ErrOverflow},
		{"18446744073709551616", 0, api.ErrOverflow},
		{"-18446744073709551616", 0, api.ErrOverflow},
		{"18446744073709551617", 0, api.ErrOverflow},
		{"99999999999999999999", 0, api.ErrOverflow},
		{"1" + strings.Repeat("0", 1<<16), 0, api.ErrOverflow},
		{"-" + strings.Repeat("9", 1<<16), 0, api.ErrOverflow},
	} {
		checkInt(t, c.s, c.n, c.e)
	}
}

// P5.3: forms that are no decimal forms, also such whose number would not be an int.
func TestIntOfNoDecimalForm(t *testing.T) {
	for _, s := range []string{
		"", "-", "--", "+", "-0", "+0", "+1", "-+1", "+-1", "--1", "---1", "00", "01", "007", "-00", "-01", "-007", "0-", "1-", "1-2", "0x10", "0b1", "0o7", "0_1", "1_000", "1e3", "1.0", "1.", ".5", "1,2", ",", "1,", "inf", "NaN", "a", "1a", "a1", "-a",
		" ", " 1", "1 ", "- 1", "1\n", "\n1", "1\x00", "\x001", "\t1", "é", "1é", "\u0661", "\uff11", "\u22121", "1\xff", "\xff", "\x80",
		"99999999999999999999x", "x99999999999999999999", "099999999999999999999", "-099999999999999999999", "+99999999999999999999", "99999999999999999999-", strings.Repeat("0", 1<<16), strings.Repeat("9", 1<<16) + " ",
	} {
		checkInt(t, s, 0, api.ErrSyntax)
	}
}

// P5.3
func TestIntOfAnyText(t *testing.T) {
	for _, c := range bytesAndOthers() {
		for _, s := range []string{c, c + c, c + "2", "3" + c, "3" + c + "2", "-" + c, "-3" + c} {
			n, e := wantInt(s)
			checkInt(t, s, n, e)
		}
	}
	source := rand.New(rand.NewSource(53))
	parts := []string{"-", "0", "1", "9", "42", "0", "5", "922337", "2036854775", "80", "+", " "}
	seen := map[api.Errno]int{}
	for range 100000 {
		s := randomText(source, parts, 9)
		n, e := wantInt(s)
		checkInt(t, s, n, e)
		seen[e]++
	}
	if len(seen) != 3 || seen[api.OK] < 1000 || seen[api.ErrOverflow] < 1000 {
		t.Errorf("the results were %v", seen)
	}
}

// P5.3: around the bounds of int, and around numbers that wrap around to ints.
func TestIntAroundBounds(t *testing.T) {
	for shift := range 9 {
		for _, sign := range []int64{1, -1} {
			bound := new(big.Int).Lsh(big.NewInt(sign), uint(60+shift))
			for d := int64(-30); d <= 30; d++ {
				s := new(big.Int).Add(bound, big.NewInt(d)).String()
				n, e := wantInt(s)
				checkInt(t, s, n, e)
			}
		}
	}
}

// P5.3
func TestFormat(t *testing.T) {
	for n, want := range map[int]string{
		0: "0", 7: "7", 10: "10", 120: "120", -1: "-1", -12: "-12", -100: "-100",
		math.MaxInt: "9223372036854775807", math.MinInt: "-9223372036854775808", math.MinInt + 1: "-9223372036854775807",
	} {
		if s := words.Format(n); s != want {
			t.Errorf("Format(%d) = %q, want %q", n, s, want)
		}
	}
	for _, n := range numbers() {
		s := words.Format(n)
		if want := big.NewInt(int64(n)).String(); s != want || !decimalForm.MatchString(s) {
			t.Errorf("Format(%d) = %q, want %q", n, s, want)
		}
	}
}

// P5.4
func TestName(t *testing.T) {
	for s, want := range map[string]bool{
		"a": true, "z": true, "s1": true, "s_1": true, "a_": true, "a__0": true, "track": true, "z9": true, "abcdefghijkl": true, "a23456789012": true, "a___________": true,
		"": false, "abcdefghijklm": false, "a234567890123": false, "1": false, "1a": false, "_": false, "_a": false, "A": false, "Ab": false, "aB": false, "aZ": false,
		"a-b": false, "a.b": false, "a b": false, " a": false, "a ": false, "a\n": false, "a\x00": false, "\x00a": false, "-": false, "-a": false, "a,b": false,
		"é": false, "aé": false, "éa": false, "\uff41": false, "a\u0661": false, "a\xff": false, "\xe1": false, "a\xe1": false,
	} {
		if got := words.Name(s); got != want {
			t.Errorf("Name(%q) = %t", s, got)
		}
	}
	for _, c := range bytesAndOthers() {
		for _, s := range []string{c, c + "a", "a" + c, "a" + c + "b", "a1_" + c, "abcdefghijk" + c, "abcdefghijkl" + c, "abcdefghij" + c + "l"} {
			if got, want := words.Name(s), nameForm.MatchString(s); got != want {
				t.Errorf("Name(%q) = %t", s, got)
			}
		}
	}
	for length := range 300 {
		if got, want := words.Name(strings.Repeat("n", length)), length >= 1 && length <= 12; got != want {
			t.Errorf("Name of %d letters is %t", length, got)
		}
	}
}

// P5.5
func TestList(t *testing.T) {
	for _, c := range []struct {
		s string
		l []int
		e api.Errno
	}{
		{"-", nil, api.OK},
		{"0", []int{0}, api.OK},
		{"5", []int{5}, api.OK},
		{"-5", []int{-5}, api.OK},
		{"3,-1,3", []int{3, -1, 3}, api.OK},
		{"0,0,0", []int{0, 0, 0}, api.OK},
		{"9223372036854775807,-9223372036854775808", []int{math.MaxInt, math.MinInt}, api.OK},

		{"", nil, api.ErrSyntax},
		{",", nil, api.ErrSyntax},
		{"3,", nil, api.ErrSyntax},
		{",3", nil, api.ErrSyntax},
		{"3,,1", nil, api.ErrSyntax},
		{"-,1", nil, api.ErrSyntax},
		{"1,-", nil, api.ErrSyntax},
		{"-,-", nil, api.ErrSyntax},
		{"--", nil, api.ErrSyntax},
		{"3, 1", nil, api.ErrSyntax},
		{"3 1", nil, api.ErrSyntax},
		{"3;1", nil, api.ErrSyntax},
		{" -", nil, api.ErrSyntax},
		{"-\n", nil, api.ErrSyntax},
		{"3,1\n", nil, api.ErrSyntax},
		{"3,01", nil, api.ErrSyntax},
		{"-0,1", nil, api.ErrSyntax},
		{"3,+1", nil, api.ErrSyntax},
		{"3,a", nil, api.ErrSyntax},
		{"[3,1]", nil, api.ErrSyntax},
		{"3\u060c1", nil, api.ErrSyntax},
		{"3,\xff", nil, api.ErrSyntax},

		{"99999999999999999999", nil, api.ErrOverflow},
		{"1,9223372036854775808", nil, api.ErrOverflow},
		{"-9223372036854775809,1", nil, api.ErrOverflow},
		{"1,99999999999999999999,x", nil, api.ErrOverflow},
		{"1,x,99999999999999999999", nil, api.ErrSyntax},
		{"99999999999999999999,", nil, api.ErrOverflow},
		{",99999999999999999999", nil, api.ErrSyntax},
		{"99999999999999999999,-", nil, api.ErrOverflow},
		{"99999999999999999999x,1", nil, api.ErrSyntax},
	} {
		checkList(t, c.s, c.l, c.e)
	}
}

// P5.5: the error is that of the first part that has one.
func TestListOfAnyText(t *testing.T) {
	source := rand.New(rand.NewSource(55))
	parts := []string{"1", "2", "-3", "10", "0", ",", ",", ",", ",", "-", "9223372036854775808", "x"}
	seen := map[api.Errno]int{}
	for range 100000 {
		s := randomText(source, parts, 7)
		var want []int
		wantE := api.OK
		if s != "-" {
			for part := range strings.SplitSeq(s, ",") {
				n, e := wantInt(part)
				if e != api.OK {
					want, wantE = nil, e
					break
				}
				want = append(want, n)
			}
		}
		checkList(t, s, want, wantE)
		seen[wantE]++
	}
	if len(seen) != 3 || seen[api.OK] < 1000 || seen[api.ErrOverflow] < 1000 {
		t.Errorf("the results were %v", seen)
	}
}

// P5.5
func TestFormatList(t *testing.T) {
	for _, c := range []struct {
		l []int
		s string
	}{
		{nil, "-"},
		{[]int{}, "-"},
		{[]int{0}, "0"},
		{[]int{-1}, "-1"},
		{[]int{3, -1, 3}, "3,-1,3"},
		{[]int{3, -1, 0}, "3,-1,0"},
		{[]int{0, 0}, "0,0"},
		{[]int{math.MinInt, math.MaxInt}, "-9223372036854775808,9223372036854775807"},
	} {
		before := slices.Clone(c.l)
		if s := words.FormatList(c.l); s != c.s {
			t.Errorf("FormatList(%d) = %q, want %q", c.l, s, c.s)
		}
		if !slices.Equal(c.l, before) {
			t.Errorf("FormatList changed %d to %d", before, c.l)
		}
	}
}

// P5.5: the length of a list is not restricted, neither to that of a word nor to that of a text.
func TestLongLists(t *testing.T) {
	for _, length := range []int{32, 33, 40, 1000, 1 << 14, 1<<14 + 1, 1 << 17} {
		var l []int
		var s bytes.Buffer
		for n := range length {
			l = append(l, -n)
			if n > 0 {
				s.WriteByte(',')
			}
			s.WriteString(strconv.Itoa(-n))
		}
		if got := words.FormatList(l); got != s.String() {
			t.Errorf("FormatList of %d numbers = %s, want %s", length, short(got), short(s.String()))
		}
		if got, e := words.List(s.String()); !slices.Equal(got, l) || e != api.OK {
			t.Errorf("List of %d numbers has %d and the error %d", length, len(got), e)
		}
		if got, e := words.List(s.String() + ","); len(got) != 0 || e != api.ErrSyntax {
			t.Errorf("List of %d numbers and an empty part has %d and the error %d", length, len(got), e)
		}
	}
}

// P5.6: what is joined is divided into the same lines, and what is divided is joined to the same text.
func TestLinesAndJoin(t *testing.T) {
	source := rand.New(rand.NewSource(56))
	some := []string{"a", "b", "!~", "-", "0,1", strings.Repeat("w", 64), "A_z", "#", "", "a b"}
	joined := 0
	for range 20000 {
		l := make([][]string, source.Intn(4))
		for i := range l {
			for range source.Intn(5) {
				l[i] = append(l[i], some[source.Intn(len(some))])
			}
		}
		if s, e := words.Join(l); e == api.OK {
			joined++
			checkLines(t, s, l, 0, api.OK)
		}
	}
	divided := 0
	parts := []string{"a", "b", " c", "\n", "d\n", "e\n", "~", " "}
	for range 20000 {
		s := randomText(source, parts, 7)
		if l, _, e := words.Lines(s); e == api.OK {
			divided++
			checkJoin(t, l, s, api.OK)
		}
	}
	full := strings.Repeat("ab c\n", 6553) + "ab\n"
	l, _, _ := words.Lines(full)
	checkJoin(t, l, full, api.OK)
	if joined < 2000 || divided < 2000 {
		t.Errorf("only %d texts were joined, and %d divided", joined, divided)
	}
}

// P5.6: numbers and lists are restored, and what is accepted is the form of its result.
func TestFormsAreRestored(t *testing.T) {
	l := numbers()
	for _, n := range l {
		checkInt(t, words.Format(n), n, api.OK)
	}
	for from := range l[:200] {
		for length := range 5 {
			checkList(t, words.FormatList(l[from:from+length]), l[from:from+length], api.OK)
		}
	}
	checkList(t, words.FormatList(l), l, api.OK)

	source := rand.New(rand.NewSource(57))
	parts := []string{"-", "0", "1", "-2", "9", "+", ",", ",", " ", "9223372036854775807", "00"}
	accepted := 0
	for range 100000 {
		s := randomText(source, parts, 5)
		if n, e := words.Int(s); e == api.OK {
			accepted++
			if form := words.Format(n); form != s {
				t.Errorf("Int(%q) = %d, whose form is %q", s, n, form)
			}
		}
		if l, e := words.List(s); e == api.OK {
			accepted++
			if form := words.FormatList(l); form != s {
				t.Errorf("List(%q) = %d, whose form is %q", s, l, form)
			}
		}
	}
	if accepted < 20000 {
		t.Errorf("only %d forms were accepted", accepted)
	}
}
