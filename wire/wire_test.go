package wire_test

import (
	"encoding/binary"
	"fmt"
	"math"
	"reflect"
	"slices"
	"strings"
	"testing"

	"signalling/api"
	"signalling/wire"
)

// naturals are numbers that are not negative around which the number of groups, or their bits, change.
func naturals() []uint64 {
	l := []uint64{300, 1000000, math.MaxUint64 / 3, math.MaxUint64 - 1, math.MaxUint64}
	for n := range uint64(300) {
		l = append(l, n)
	}
	for shift := range 64 {
		n := uint64(1) << shift
		l = append(l, n-1, n, n+1, n|1<<(shift/2))
	}
	slices.Sort(l)
	return slices.Compact(l)
}

// numbers are numbers of both signs, the bounds of int among them.
func numbers() []int {
	var l []int
	for _, n := range naturals() {
		l = append(l, int(n), -int(n))
	}
	return append(l, math.MinInt, math.MinInt+1, math.MaxInt-1, math.MaxInt)
}

// texts are texts of lengths around which the encoded length gets a byte more, and of bytes that look like encodings.
func texts() []string {
	l := []string{"", "a", "ab", "\x00", "\x00\x00\x00", "\x80", "\xff\xff\xff", "\x02ab", "points é"}
	for _, length := range []int{126, 127, 128, 129, 300, 16383, 16384} {
		l = append(l, strings.Repeat("q", length))
	}
	return l
}

// lists are lists of numbers, also with lengths around which the encoded length gets a byte more.
func lists() [][]int {
	l := [][]int{nil, {}, {0}, {1, -2}, {-1, -1, -1}, {64, -65, 300, 0}, {math.MinInt, math.MaxInt, 0}, numbers()}
	for _, length := range []int{127, 128, 129} {
		l = append(l, make([]int, length))
	}
	return l
}

// uintCode and intCode compute encodings by the standard library, whose varints have the same form.
func uintCode(n uint64) string { return string(binary.AppendUvarint(nil, n)) }
func intCode(n int) string     { return string(binary.AppendVarint(nil, int64(n))) }

// P3.1
func TestUint(t *testing.T) {
	for _, c := range []struct {
		n    uint64
		code string
	}{
		{0, "\x00"},
		{1, "\x01"},
		{127, "\x7f"},
		{128, "\x80\x01"},
		{256, "\x80\x02"},
		{300, "\xac\x02"},
		{16383, "\xff\x7f"},
		{16384, "\x80\x80\x01"},
		{math.MaxInt, "\xff\xff\xff\xff\xff\xff\xff\xff\x7f"},
		{1 << 63, "\x80\x80\x80\x80\x80\x80\x80\x80\x80\x01"},
		{math.MaxUint64, "\xff\xff\xff\xff\xff\xff\xff\xff\xff\x01"},
	} {
		if code := wire.Uint(c.n); code != c.code {
			t.Errorf("Uint(%d) = %x, want %x", c.n, code, c.code)
		}
	}
	for _, n := range naturals() {
		if code := wire.Uint(n); code != uintCode(n) {
			t.Errorf("Uint(%d) = %x, want %x", n, code, uintCode(n))
		}
	}
}

// P3.1
func TestInt(t *testing.T) {
	for _, c := range []struct {
		n    int
		code string
	}{
		{0, "\x00"},
		{-1, "\x01"},
		{1, "\x02"},
		{-2, "\x03"},
		{63, "\x7e"},
		{-64, "\x7f"},
		{64, "\x80\x01"},
		{-65, "\x81\x01"},
		{math.MaxInt, "\xfe\xff\xff\xff\xff\xff\xff\xff\xff\x01"},
		{math.MinInt, "\xff\xff\xff\xff\xff\xff\xff\xff\xff\x01"},
	} {
		if code := wire.Int(c.n); code != c.code {
			t.Errorf("Int(%d) = %x, want %x", c.n, code, c.code)
		}
	}
	for _, n := range numbers() {
		if code := wire.Int(n); code != intCode(n) {
			t.Errorf("Int(%d) = %x, want %x", n, code, intCode(n))
		}
	}
}

// P3.1
func TestBool(t *testing.T) {
	if code := wire.Bool(false); code != "\x00" {
		t.Errorf("Bool(false) = %x", code)
	}
	if code := wire.Bool(true); code != "\x01" {
		t.Errorf("Bool(true) = %x", code)
	}
}

// P3.1
func TestText(t *testing.T) {
	if code := wire.Text("ab"); code != "\x02ab" {
		t.Errorf("Text = %x", code)
	}
	if code := wire.Text(""); code != "\x00" {
		t.Errorf("Text of no bytes = %x", code)
	}
	// The length counts bytes, not characters.
	if code := wire.Text("é"); code != "\x02\xc3\xa9" {
		t.Errorf("Text of a character of two bytes = %x", code)
	}
	for _, s := range texts() {
		if code := wire.Text(s); code != uintCode(uint64(len(s)))+s {
			t.Errorf("Text(%s) = %s", short(s), short(code))
		}
	}
}

// P3.1
func TestInts(t *testing.T) {
	if code := wire.Ints([]int{1, -2}); code != "\x02\x02\x03" {
		t.Errorf("Ints = %x", code)
	}
	for _, l := range lists() {
		before := slices.Clone(l)
		want := uintCode(uint64(len(l)))
		for _, n := range l {
			want += intCode(n)
		}
		if code := wire.Ints(l); code != want {
			t.Errorf("Ints(%s) = %s, want %s", short(l), short(code), short(want))
		}
		if !slices.Equal(l, before) {
			t.Errorf("Ints changed %s to %s", short(before), short(l))
		}
	}
}

// short is the form in which a value stands in a message: of long ones only the beginning.
func short(value any) string {
	s := fmt.Sprintf("%v", value)
	if text, ok := value.(string); ok {
		s = fmt.Sprintf("%x", text)
	}
	if len(s) > 60 {
		return s[:60] + ".."
	}
	return s
}

// taken is what a decoding function returned.
type taken struct {
	value any
	to    int
	e     api.Errno
}

func (a taken) equal(b taken) bool { return reflect.DeepEqual(a, b) }

func (a taken) String() string {
	return fmt.Sprintf("%s, offset %d, error %d", short(a.value), a.to, a.e)
}

// A taker decodes one kind of value; most has no meaning for some of them.
type taker struct {
	take func(s string, at, most int) taken
	code func(value any) string // the encoding of a value that was taken
	zero any
}

// takers are the decoding functions. A list that is nil counts as empty.
func takers() map[string]taker {
	return map[string]taker{
		"TakeUint": {
			func(s string, at, _ int) taken { n, to, e := wire.TakeUint(s, at); return taken{n, to, e} },
			func(value any) string { return wire.Uint(value.(uint64)) }, uint64(0),
		},
		"TakeInt": {
			func(s string, at, _ int) taken { n, to, e := wire.TakeInt(s, at); return taken{n, to, e} },
			func(value any) string { return wire.Int(value.(int)) }, 0,
		},
		"TakeBool": {
			func(s string, at, _ int) taken { b, to, e := wire.TakeBool(s, at); return taken{b, to, e} },
			func(value any) string { return wire.Bool(value.(bool)) }, false,
		},
		"TakeText": {
			func(s string, at, most int) taken {
				text, to, e := wire.TakeText(s, at, most)
				return taken{text, to, e}
			},
			func(value any) string { return wire.Text(value.(string)) }, "",
		},
		"TakeCount": {
			func(s string, at, most int) taken { n, to, e := wire.TakeCount(s, at, most); return taken{n, to, e} },
			func(value any) string { return wire.Uint(uint64(value.(int))) }, 0,
		},
		"TakeInts": {
			func(s string, at, most int) taken {
				l, to, e := wire.TakeInts(s, at, most)
				return taken{append([]int{}, l...), to, e}
			},
			func(value any) string { return wire.Ints(value.([]int)) }, []int{},
		},
	}
}

// check compares what a decoding function returns with what it should; together with an error, all else is to be zero.
func check(t *testing.T, name, s string, at, most int, value any, to int, e api.Errno) {
	t.Helper()
	taker := takers()[name]
	want := taken{value, to, e}
	if e != api.OK {
		want = taken{taker.zero, 0, e}
	}
	if got := taker.take(s, at, most); !got.equal(want) {
		t.Errorf("%s(%s, %d), most %d: %v; want %v", name, short(s), at, most, got, want)
	}
}

// P3.2
func TestTakeUint(t *testing.T) {
	nines := strings.Repeat("\xff", 9)
	for _, c := range []struct {
		s  string
		at int
		n  uint64
		to int
		e  api.Errno
	}{
		{"\x00", 0, 0, 1, api.OK},
		{"\x00\x00", 1, 0, 2, api.OK},
		{"\x7f\x00", 0, 127, 1, api.OK},
		{"\x80\x01\x80", 0, 128, 2, api.OK},
		{"x\xac\x02y", 1, 300, 3, api.OK},
		{"x\xac\x02y", 2, 2, 3, api.OK},
		{"\x81\x80\x01", 0, 16385, 3, api.OK},
		{nines + "\x01", 0, math.MaxUint64, 10, api.OK},
		{nines + "\x01\x80\x00", 0, math.MaxUint64, 10, api.OK},
		{"\x80\x80\x80\x80\x80\x80\x80\x80\x80\x01", 0, 1 << 63, 10, api.OK},
		{"\x80\x80\x80\x80\x80\x80\x80\x80\x80\x01", 8, 128, 10, api.OK},

		{"", 0, 0, 0, api.ErrTruncated},
		{"a", 1, 0, 0, api.ErrTruncated},
		{"\x80", 0, 0, 0, api.ErrTruncated},
		{"\x01\x80", 1, 0, 0, api.ErrTruncated},
		{nines, 0, 0, 0, api.ErrTruncated},

		{"\x80\x00", 0, 0, 0, api.ErrSyntax},
		{"\x81\x00\x01", 0, 0, 0, api.ErrSyntax},
		{"\x80\x80\x00", 0, 0, 0, api.ErrSyntax},
		{"\x80\x80\x80\x80\x80\x80\x80\x80\x00", 0, 0, 0, api.ErrSyntax},
		{nines + "\x00", 0, 0, 0, api.ErrSyntax},
		{nines + "\x02", 0, 0, 0, api.ErrSyntax},
		{nines + "\x7f", 0, 0, 0, api.ErrSyntax},
		{nines + "\x80", 0, 0, 0, api.ErrSyntax},
		{nines + "\x81\x01", 0, 0, 0, api.ErrSyntax},
		{nines + "\xff", 0, 0, 0, api.ErrSyntax},

		{"", -1, 0, 0, api.ErrArg},
		{"", 1, 0, 0, api.ErrArg},
		{"a", 2, 0, 0, api.ErrArg},
		{"\x80\x00", -1, 0, 0, api.ErrArg},
		{"a", math.MinInt, 0, 0, api.ErrArg},
		{"a", math.MaxInt, 0, 0, api.ErrArg},
	} {
		check(t, "TakeUint", c.s, c.at, 0, c.n, c.to, c.e)
	}
}

// P3.2: the only tenth byte is 1, for all functions that read a number or a length.
func TestTakeUintTenth(t *testing.T) {
	for tenth := range 256 {
		s := "-" + strings.Repeat("\x80", 9) + string([]byte{byte(tenth)}) + "\x01"
		if tenth == 1 {
			check(t, "TakeUint", s, 1, 0, uint64(1<<63), 11, api.OK)
			continue
		}
		for _, name := range []string{"TakeUint", "TakeInt", "TakeCount", "TakeText", "TakeInts"} {
			check(t, name, s, 1, math.MaxInt, nil, 0, api.ErrSyntax)
		}
	}
}

// P3.2
func TestTakeInt(t *testing.T) {
	nines := strings.Repeat("\xff", 9)
	for _, c := range []struct {
		s         string
		at, n, to int
		e         api.Errno
	}{
		{"\x00", 0, 0, 1, api.OK},
		{"\x01", 0, -1, 1, api.OK},
		{"\x02", 0, 1, 1, api.OK},
		{"\x03", 0, -2, 1, api.OK},
		{"\x7f", 0, -64, 1, api.OK},
		{"?\x80\x01?", 1, 64, 3, api.OK},
		{nines + "\x01", 0, math.MinInt, 10, api.OK},
		{"\xfe" + nines[1:] + "\x01", 0, math.MaxInt, 10, api.OK},
		{"", 0, 0, 0, api.ErrTruncated},
		{"\x01", 1, 0, 0, api.ErrTruncated},
		{"\x81", 0, 0, 0, api.ErrTruncated},
		{nines, 0, 0, 0, api.ErrTruncated},
		{"\x81\x00", 0, 0, 0, api.ErrSyntax},
		{nines + "\x03", 0, 0, 0, api.ErrSyntax},
		{"\x01", -1, 0, 0, api.ErrArg},
		{"\x01", 2, 0, 0, api.ErrArg},
		{"\x01", math.MinInt, 0, 0, api.ErrArg},
		{"\x01", math.MaxInt, 0, 0, api.ErrArg},
	} {
		check(t, "TakeInt", c.s, c.at, 0, c.n, c.to, c.e)
	}
}

// P3.2
func TestTakeBool(t *testing.T) {
	check(t, "TakeBool", "\x00\x01", 0, 0, false, 1, api.OK)
	check(t, "TakeBool", "\x00\x01", 1, 0, true, 2, api.OK)
	check(t, "TakeBool", "\x02\x01\x02", 1, 0, true, 2, api.OK)
	check(t, "TakeBool", "", 0, 0, nil, 0, api.ErrTruncated)
	check(t, "TakeBool", "\x01", 1, 0, nil, 0, api.ErrTruncated)
	for _, at := range []int{-1, 2, 3, math.MinInt, math.MaxInt} {
		check(t, "TakeBool", "\x01", at, 0, nil, 0, api.ErrArg)
	}
	for b := 2; b < 256; b++ {
		check(t, "TakeBool", string([]byte{byte(b), 1}), 0, 0, nil, 0, api.ErrSyntax)
	}
}

// P3.3: lengths, as TakeCount, TakeText and TakeInts read them.
func TestTakeCount(t *testing.T) {
	greatest := strings.Repeat("\xff", 9) + "\x01"
	for _, c := range []struct {
		s               string
		at, most, n, to int
		e               api.Errno
	}{
		{"\x00", 0, 0, 0, 1, api.OK},
		{"\x00", 0, math.MaxInt, 0, 1, api.OK},
		{"\x02ab", 0, 2, 2, 1, api.OK},
		{"\x02ab!", 0, 9, 2, 1, api.OK},
		{"!\x02ab!", 1, 2, 2, 2, api.OK},
		{"\x80\x01" + strings.Repeat("q", 128), 0, 128, 128, 2, api.OK},

		{"\x00", 0, -1, 0, 0, api.ErrLimit},
		{"\x00", 0, math.MinInt, 0, 0, api.ErrLimit},
		{"\x01a", 0, 0, 0, 0, api.ErrLimit},
		{"\x03abc", 0, 2, 0, 0, api.ErrLimit},
		{"\x03ab", 0, 2, 0, 0, api.ErrLimit},
		{"\x80\x01" + strings.Repeat("q", 128), 0, 127, 0, 0, api.ErrLimit},
		{greatest, 0, math.MaxInt, 0, 0, api.ErrLimit},
		{greatest, 0, -1, 0, 0, api.ErrLimit},
		{wire.Uint(1 << 63), 0, math.MaxInt, 0, 0, api.ErrLimit},
		{wire.Uint(1 << 63), 0, math.MinInt, 0, 0, api.ErrLimit},
		{wire.Uint(1<<32 + 1), 0, 1, 0, 0, api.ErrLimit},

		{"\x03ab", 0, 3, 0, 0, api.ErrTruncated},
		{"\x03ab", 0, 9, 0, 0, api.ErrTruncated},
		{"ab\x01", 2, 1, 0, 0, api.ErrTruncated},
		{wire.Uint(math.MaxInt) + "ab", 0, math.MaxInt, 0, 0, api.ErrTruncated},
		{"\x80\x01" + strings.Repeat("q", 127), 0, 128, 0, 0, api.ErrTruncated},
		// The errors of TakeUint come before the limit.
		{"", 0, -1, 0, 0, api.ErrTruncated},
		{"\x80", 0, -1, 0, 0, api.ErrTruncated},
		{"\x80\x00", 0, -1, 0, 0, api.ErrSyntax},
		{greatest[:9] + "\x02", 0, -1, 0, 0, api.ErrSyntax},
		{"\x00", -1, -1, 0, 0, api.ErrArg},
		{"\x00", 2, 0, 0, 0, api.ErrArg},
		{"\x00", math.MinInt, 0, 0, 0, api.ErrArg},
		{"\x00", math.MaxInt, 0, 0, 0, api.ErrArg},
	} {
		check(t, "TakeCount", c.s, c.at, c.most, c.n, c.to, c.e)
		if c.e != api.OK {
			check(t, "TakeText", c.s, c.at, c.most, nil, 0, c.e)
			check(t, "TakeInts", c.s, c.at, c.most, nil, 0, c.e)
		} else {
			check(t, "TakeText", c.s, c.at, c.most, c.s[c.to:c.to+c.n], c.to+c.n, api.OK)
		}
	}
}

// P3.3
func TestTakeText(t *testing.T) {
	for _, c := range []struct {
		s        string
		at, most int
		text     string
		to       int
		e        api.Errno
	}{
		{"\x02ab!", 0, 2, "ab", 3, api.OK},
		{"\x02ab!", 0, math.MaxInt, "ab", 3, api.OK},
		{"!\x02ab", 1, 2, "ab", 4, api.OK},
		{"\x00ab", 0, 0, "", 1, api.OK},
		{"ab\x00", 2, 5, "", 3, api.OK},
		{"\x03\x00\x80\xff\x00", 0, 3, "\x00\x80\xff", 4, api.OK},
		{"\x03ab", 0, 9, "", 0, api.ErrTruncated},
		{"\x03ab", 0, 2, "", 0, api.ErrLimit},
		{"\x03abc", 0, 2, "", 0, api.ErrLimit},
		{"\x00", 0, -1, "", 0, api.ErrLimit},
		{"\x82\x00ab", 0, 9, "", 0, api.ErrSyntax},
		{"\x02ab", 4, 9, "", 0, api.ErrArg},
	} {
		check(t, "TakeText", c.s, c.at, c.most, c.text, c.to, c.e)
	}
}

// P3.3
func TestTakeInts(t *testing.T) {
	nines := strings.Repeat("\xff", 9)
	for _, c := range []struct {
		s        string
		at, most int
		l        []int
		to       int
		e        api.Errno
	}{
		{"\x02\x02\x03", 0, 5, []int{1, -2}, 3, api.OK},
		{"\x02\x02\x03", 0, 2, []int{1, -2}, 3, api.OK},
		{"\x09\x02\x80\x01\x03\x07", 1, 2, []int{64, -2}, 5, api.OK},
		{"\x00\x07", 0, 0, []int{}, 1, api.OK},
		{"\x00\x07", 0, math.MaxInt, []int{}, 1, api.OK},
		{"\x01" + nines + "\x01\x01", 0, 1, []int{math.MinInt}, 11, api.OK},

		{"\x02\x02\x03", 0, 1, nil, 0, api.ErrLimit},
		{"\x00", 0, -1, nil, 0, api.ErrLimit},
		{"\x03\x02\x03", 0, 3, nil, 0, api.ErrTruncated},
		// So many bytes remain, but not so many numbers.
		{"\x02\x80\x01", 0, 2, nil, 0, api.ErrTruncated},
		{"\x02\x02\x80", 0, 2, nil, 0, api.ErrTruncated},
		{"\x02\x80\x80", 0, 2, nil, 0, api.ErrTruncated},
		{"\x01" + nines, 0, 1, nil, 0, api.ErrTruncated},
		// The first number that is not accepted counts, and what follows the list does not.
		{"\x02\x80\x00\x80", 0, 2, nil, 0, api.ErrSyntax},
		{"\x02\x02\x80\x00", 0, 2, nil, 0, api.ErrSyntax},
		{"\x01" + nines + "\x02", 0, 1, nil, 0, api.ErrSyntax},
		{"\x01\x02\x80\x00", 0, 1, []int{1}, 2, api.OK},
		// The length is examined before the numbers.
		{"\x02\x80\x00", 0, 1, nil, 0, api.ErrLimit},
		{"\x03\x80\x00", 0, 3, nil, 0, api.ErrTruncated},
		{"\x82\x00\x02\x03", 0, 5, nil, 0, api.ErrSyntax},
		{"\x02\x02\x03", 4, 5, nil, 0, api.ErrArg},
		{"\x02\x02\x03", -1, 5, nil, 0, api.ErrArg},
	} {
		check(t, "TakeInts", c.s, c.at, c.most, c.l, c.to, c.e)
	}
}

// A sample is a value with its encoding, the function that decodes it, and the least most with which it is accepted.
type sample struct {
	name, code string
	value      any
	most       int
}

func samples() []sample {
	l := []sample{{"TakeBool", wire.Bool(false), false, 0}, {"TakeBool", wire.Bool(true), true, 0}}
	for _, n := range naturals() {
		l = append(l, sample{"TakeUint", wire.Uint(n), n, 0})
	}
	for _, n := range numbers() {
		l = append(l, sample{"TakeInt", wire.Int(n), n, 0})
	}
	for _, s := range texts() {
		l = append(l, sample{"TakeText", wire.Text(s), s, len(s)})
	}
	for _, list := range lists() {
		l = append(l, sample{"TakeInts", wire.Ints(list), append([]int{}, list...), len(list)})
	}
	return l
}

// P3.4: what is encoded is decoded, whatever stands before and behind it.
func TestWireRoundTrips(t *testing.T) {
	for _, c := range samples() {
		for _, before := range []string{"", "\x00", "\x80", "text", "\xff\xff"} {
			for _, behind := range []string{"", "\x00", "\x01", "\x80", "text", "\xff\xff"} {
				s, at := before+c.code+behind, len(before)
				check(t, c.name, s, at, c.most, c.value, at+len(c.code), api.OK)
			}
		}
		if t.Failed() {
			return // the other samples would only repeat it
		}
	}
}

// P3.4: values that are encoded one behind the other are decoded one after the other.
func TestSequence(t *testing.T) {
	var s strings.Builder
	for _, c := range samples() {
		s.WriteString(c.code)
	}
	at := 0
	for _, c := range samples() {
		check(t, c.name, s.String(), at, math.MaxInt, c.value, at+len(c.code), api.OK)
		if t.Failed() {
			return
		}
		at += len(c.code)
	}
	for name := range takers() {
		check(t, name, s.String(), at, math.MaxInt, nil, 0, api.ErrTruncated)
	}
}

// codes calls visit with all texts of up to four of the bytes that mark bounds of groups, lengths and truth values,
// and with all texts of up to two bytes.
func codes(visit func(s string)) {
	bounds := []byte{0, 1, 2, 3, 63, 127, 128, 129, 130, 255}
	var grow func(s []byte)
	grow = func(s []byte) {
		visit(string(s))
		if len(s) < 4 {
			for _, b := range bounds {
				grow(append(slices.Clone(s), b))
			}
		}
	}
	grow(nil)
	for first := range 256 {
		visit(string([]byte{byte(first)}))
		for second := range 256 {
			visit(string([]byte{byte(first), byte(second)}))
		}
	}
}

// P3.4: a part from which a value is decoded is its encoding; and if there is none, all results but the error are zero.
func TestNothingElseIsAccepted(t *testing.T) {
	for name, taker := range takers() {
		codes(func(s string) {
			got := taker.take("\x81"+s, 1, 3)
			if got.e != api.OK {
				if !got.equal(taken{taker.zero, 0, got.e}) {
					t.Fatalf("%s of %x: %v", name, s, got)
				}
				return
			}
			if got.to < 1 || got.to > 1+len(s) || taker.code(got.value) != s[:got.to-1] {
				t.Fatalf("%s of %x: %v", name, s, got)
			}
		})
	}
}

// P3.4: the same for numbers of nine and ten bytes.
func TestNothingElseIsAcceptedLong(t *testing.T) {
	for _, name := range []string{"TakeUint", "TakeInt"} {
		taker := takers()[name]
		codes(func(s string) {
			s = "\x80\xff\x81\x80\xff\x80\x80" + s
			got := taker.take(s, 0, 0)
			if got.e == api.OK && taker.code(got.value) != s[:got.to] {
				t.Fatalf("%s of %x: %v", name, s, got)
			}
		})
	}
}

// P3.5
func TestBeginnings(t *testing.T) {
	for _, c := range samples() {
		// Of long encodings, the beginnings near both ends are enough.
		for length := range len(c.code) {
			if length < 40 || length > len(c.code)-40 {
				check(t, c.name, c.code[:length], 0, c.most, nil, 0, api.ErrTruncated)
				check(t, c.name, "\x01"+c.code[:length], 1, math.MaxInt, nil, 0, api.ErrTruncated)
			}
		}
		if t.Failed() {
			return
		}
	}
}

// P3.6
func TestLengths(t *testing.T) {
	last := 1
	for _, n := range naturals() {
		length := len(wire.Uint(n))
		if length < last || length > 10 {
			t.Errorf("Uint(%d) has %d bytes, that of a smaller number %d", n, length, last)
		}
		last = length
	}
	if last != 10 {
		t.Errorf("the greatest number has %d bytes", last)
	}
	for _, n := range numbers() {
		if length := len(wire.Int(n)); length < 1 || length > 10 {
			t.Errorf("Int(%d) has %d bytes", n, length)
		}
	}
}

// 0.1: any offsets and greatest lengths are met by a result or an error.
func TestAnyArguments(t *testing.T) {
	offsets := []int{math.MinInt, -math.MaxInt, -1, 0, 1, 2, 3, 4, 5, 9, 10, 11, math.MaxInt - 9, math.MaxInt}
	greatest := strings.Repeat("\xff", 9) + "\x01"
	for name, taker := range takers() {
		for _, s := range []string{"", "\x00", "\x03ab", "\x80\x80\x80", greatest, "\x01" + greatest, wire.Uint(math.MaxInt), wire.Uint(1 << 62)} {
			for _, at := range offsets {
				for _, most := range offsets {
					got := taker.take(s, at, most)
					if (got.e == api.ErrArg) != (at < 0 || at > len(s)) {
						t.Errorf("%s(%s, %d), most %d: %v", name, short(s), at, most, got)
					}
				}
			}
		}
	}
}

// 0.4: a list that was decoded shares no memory with one that is decoded again.
func TestNewMemory(t *testing.T) {
	s := wire.Ints([]int{1, -2, 300})
	first, _, _ := wire.TakeInts(s, 0, 3)
	first[0], first[2] = 7, 7
	second, _, _ := wire.TakeInts(s, 0, 3)
	if !slices.Equal(second, []int{1, -2, 300}) {
		t.Errorf("TakeInts returned %d", second)
	}
}
