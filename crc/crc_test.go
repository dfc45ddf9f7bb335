package crc_test

import (
	"encoding/binary"
	"fmt"
	"hash/crc32"
	"hash/fnv"
	"math"
	"math/rand"
	"strings"
	"testing"

	"signalling/api"
	"signalling/crc"
)

// texts are texts of many lengths, of bytes that are no characters, and of ends that look like checksums.
func texts() []string {
	l := []string{
		"", "a", "abc", "123456789", "points é", "\x00", "\x00\x00\x00\x00", "\xff", "\xff\xff\xff\xff", "\x80\xfe",
		"123456789\xcb\xf4\x39\x26", "a\xe8\xb7\xbe\x43\xe8\xb7\xbe\x43", allBytes(), strings.Repeat("q", 1<<16+257),
	}
	for length := range 70 {
		l = append(l, strings.Repeat("\x00", length), strings.Repeat("s1", length))
	}
	source := rand.New(rand.NewSource(4))
	for _, length := range []int{1, 2, 3, 4, 5, 7, 8, 9, 15, 16, 17, 63, 255, 256, 257, 1000, 65535, 65536} {
		l = append(l, randomText(source, length))
	}
	return l
}

// allBytes is the text of all bytes, each once.
func allBytes() string {
	var b []byte
	for n := range 256 {
		b = append(b, byte(n))
	}
	return string(b)
}

func randomText(source *rand.Rand, length int) string {
	b := make([]byte, length)
	source.Read(b)
	return string(b)
}

// registers are numbers for digests: each single byte of them, the bounds, and such that order their bytes.
func registers() []uint64 {
	l := []uint64{0, 1, 2, 300, 0x0102030405060708, 14695981039346656037, math.MaxInt64, math.MaxUint64 - 1, math.MaxUint64}
	for shift := range 64 {
		l = append(l, 1<<shift, 255<<shift)
	}
	return l
}

// chained computes a digest by the standard library.
func chained(h uint64, s string) uint64 {
	digest := fnv.New64a()
	code := binary.LittleEndian.AppendUint64(nil, h)
	code = binary.LittleEndian.AppendUint64(code, uint64(len(s)))
	digest.Write(append(code, s...))
	return digest.Sum64()
}

// short is the form in which a text stands in a message: of long ones only the beginning.
func short(s string) string {
	if len(s) > 30 {
		return fmt.Sprintf("%x.. of %d bytes", s[:30], len(s))
	}
	return fmt.Sprintf("%x", s)
}

// checkOpen compares what Open returns with what it should.
func checkOpen(t *testing.T, s, text string, e api.Errno) {
	t.Helper()
	if gotText, gotE := crc.Open(s); gotText != text || gotE != e {
		t.Errorf("Open(%s) = %s, %d; want %s, %d", short(s), short(gotText), gotE, short(text), e)
	}
}

// P4.1
func TestSum(t *testing.T) {
	for _, c := range []struct {
		s   string
		sum uint32
	}{
		{"", 0},
		{"123456789", 0xCBF43926},
		{"a", 0xE8B7BE43},
		{"abc", 0x352441C2},
		{"The quick brown fox jumps over the lazy dog", 0x414FA339},
		{"\x00", 0xD202EF8D},
		{"\x00\x00\x00\x00", 0x2144DF1C},
		{"\xff\xff\xff\xff", 0xFFFFFFFF},
		{"é", 0x0E048D3E},
		{allBytes(), 0x29058C73},
		{strings.Repeat("q", 300), 0x908C8C1C},
	} {
		if sum := crc.Sum(c.s); sum != c.sum {
			t.Errorf("Sum(%s) = %08x, want %08x", short(c.s), sum, c.sum)
		}
	}
}

// P4.1
func TestSumOfAnyText(t *testing.T) {
	l := texts()
	for b := range 256 {
		l = append(l, string([]byte{byte(b)}), string([]byte{1, byte(b), 2}))
	}
	for _, s := range l {
		if sum, want := crc.Sum(s), crc32.ChecksumIEEE([]byte(s)); sum != want {
			t.Errorf("Sum(%s) = %08x, want %08x", short(s), sum, want)
		}
	}
}

// P4.2
func TestSeal(t *testing.T) {
	for s, want := range map[string]string{
		"":          "\x00\x00\x00\x00",
		"a":         "a\xe8\xb7\xbe\x43",
		"123456789": "123456789\xcb\xf4\x39\x26",
		"é":         "é\x0e\x04\x8d\x3e",
	} {
		if sealed := crc.Seal(s); sealed != want {
			t.Errorf("Seal(%s) = %x, want %x", short(s), sealed, want)
		}
	}
	for _, s := range texts() {
		want := s + string(binary.BigEndian.AppendUint32(nil, crc32.ChecksumIEEE([]byte(s))))
		if sealed := crc.Seal(s); sealed != want {
			t.Errorf("Seal(%s) ends in %x, want %x", short(s), sealed[max(0, len(sealed)-4):], want[len(s):])
		}
	}
}

// P4.3
func TestOpen(t *testing.T) {
	for _, c := range []struct {
		s, text string
		e       api.Errno
	}{
		{"\x00\x00\x00\x00", "", api.OK},
		{"a\xe8\xb7\xbe\x43", "a", api.OK},
		{"123456789\xcb\xf4\x39\x26", "123456789", api.OK},
		{"\x00\xd2\x02\xef\x8d", "\x00", api.OK},
		{"\xff\xff\xff\xff\xff\xff\xff\xff", "\xff\xff\xff\xff", api.OK},

		{"", "", api.ErrTruncated},
		{"\x00", "", api.ErrTruncated},
		{"\x00\x00", "", api.ErrTruncated},
		{"\x00\x00\x00", "", api.ErrTruncated},
		{"abc", "", api.ErrTruncated},
		{"\xe8\xb7\xbe", "", api.ErrTruncated},

		{"abcd", "", api.ErrCorrupt},
		{"\x00\x00\x00\x00\x00", "", api.ErrCorrupt},
		{"\x00\x00\x00\x01", "", api.ErrCorrupt},
		{"\x00\x00\x01\x00", "", api.ErrCorrupt},
		{"\x00\x01\x00\x00", "", api.ErrCorrupt},
		{"\x01\x00\x00\x00", "", api.ErrCorrupt},
		{"\xff\xff\xff\xff", "", api.ErrCorrupt},
		{"\xe8\xb7\xbe\x43", "", api.ErrCorrupt},
		{"a\x43\xbe\xb7\xe8", "", api.ErrCorrupt},
		{"b\xe8\xb7\xbe\x43", "", api.ErrCorrupt},
		{"a\x17\x48\x41\xbc", "", api.ErrCorrupt},
		{"\xe8\xb7\xbe\x43a", "", api.ErrCorrupt},
		{"a\xe8\xb7\xbe\x43\x00", "", api.ErrCorrupt},
		{"\x00a\xe8\xb7\xbe\x43", "", api.ErrCorrupt},
		{"123456788\xcb\xf4\x39\x26", "", api.ErrCorrupt},
		{"123456789\x26\x39\xf4\xcb", "", api.ErrCorrupt},
		{"12345678\xcb\xf4\x39\x26", "", api.ErrCorrupt},
	} {
		checkOpen(t, c.s, c.text, c.e)
	}
}

// P4.3: of all numbers of four bytes that differ from the checksum in some bits, none is accepted.
func TestOpenOtherChecksums(t *testing.T) {
	for _, s := range []string{"", "a", "123456789", "\xff\xff\xff\xff"} {
		sum := crc32.ChecksumIEEE([]byte(s))
		for first := range 32 {
			for second := range 32 {
				other := sum ^ (1<<first | 1<<second)
				checkOpen(t, s+string(binary.BigEndian.AppendUint32(nil, other)), "", api.ErrCorrupt)
			}
		}
	}
}

// P4.4: the constants were computed from the definition, not by this package.
func TestChain(t *testing.T) {
	for _, c := range []struct {
		h      uint64
		s      string
		digest uint64
	}{
		{0, "", 0x88201FB960FF6465},
		{1, "", 0x392209F14DEA4C24},
		{0, "a", 0xBA8FD8A23D5C6CDF},
		{0, "123456789", 0xD5A702FA6FD50F77},
		{math.MaxUint64, "ab", 0x71CABB08947D23E8},
		{0x0102030405060708, "\x00\xff", 0xEA5B7E125F6E9CFE},
		{0, strings.Repeat("q", 300), 0x2BF9FFC4C5876C22},
		{0, strings.Repeat("q", 65793), 0x80C92C65CDE5C795},
		{0xBA8FD8A23D5C6CDF, "b", 0xB0BA456D3F517473},
	} {
		if digest := crc.Chain(c.h, c.s); digest != c.digest {
			t.Errorf("Chain(%x, %s) = %x, want %x", c.h, short(c.s), digest, c.digest)
		}
	}
}

// P4.4
func TestChainOfAnyText(t *testing.T) {
	for _, s := range texts() {
		for _, h := range []uint64{0, 0x0102030405060708, math.MaxUint64} {
			if digest, want := crc.Chain(h, s), chained(h, s); digest != want {
				t.Errorf("Chain(%x, %s) = %x, want %x", h, short(s), digest, want)
			}
		}
	}
	for _, h := range registers() {
		if digest, want := crc.Chain(h, "ab"), chained(h, "ab"); digest != want {
			t.Errorf("Chain(%x) of ab = %x, want %x", h, digest, want)
		}
	}
}

// P4.4: the length of each text counts, so that chains of the same bytes that are divided elsewhere differ.
func TestChainOfSeveralTexts(t *testing.T) {
	seen := map[uint64]string{}
	for _, l := range [][]string{{}, {""}, {"", ""}, {"ab"}, {"a", "b"}, {"b", "a"}, {"", "ab"}, {"ab", ""}, {"a", "", "b"}, {"ba"}} {
		h, want := uint64(0), uint64(0)
		for _, s := range l {
			h, want = crc.Chain(h, s), chained(want, s)
		}
		if h != want {
			t.Errorf("the chain of %q is %x, want %x", l, h, want)
		}
		if other, ok := seen[h]; ok {
			t.Errorf("the chains of %q and %s are both %x", l, other, h)
		}
		seen[h] = fmt.Sprintf("%q", l)
	}
}

// P4.5
func TestHex(t *testing.T) {
	for _, c := range []struct {
		h      uint64
		digits string
	}{
		{0, "0000000000000000"},
		{9, "0000000000000009"},
		{10, "000000000000000a"},
		{15, "000000000000000f"},
		{16, "0000000000000010"},
		{255, "00000000000000ff"},
		{0x123456789ABCDEF, "0123456789abcdef"},
		{0xFEDCBA9876543210, "fedcba9876543210"},
		{1 << 60, "1000000000000000"},
		{1<<60 - 1, "0fffffffffffffff"},
		{1 << 63, "8000000000000000"},
		{math.MaxInt64, "7fffffffffffffff"},
		{math.MaxUint64, "ffffffffffffffff"},
	} {
		if digits := crc.Hex(c.h); digits != c.digits {
			t.Errorf("Hex(%d) = %q, want %q", c.h, digits, c.digits)
		}
	}
	for _, h := range registers() {
		if digits, want := crc.Hex(h), fmt.Sprintf("%016x", h); digits != want {
			t.Errorf("Hex(%d) = %q, want %q", h, digits, want)
		}
	}
}

// P4.6: what is sealed is opened to the same, also if it is sealed several times.
func TestSealedIsOpened(t *testing.T) {
	for _, s := range texts() {
		once := crc.Seal(s)
		twice := crc.Seal(once)
		checkOpen(t, once, s, api.OK)
		checkOpen(t, twice, once, api.OK)
	}
}

// P4.6: what is opened is what Seal makes of the result, whatever was given to Open.
func TestOpenedIsSealed(t *testing.T) {
	source := rand.New(rand.NewSource(6))
	opened := 0
	for round := range 20000 {
		s := randomText(source, round%9)
		if round%4 == 0 {
			s = crc.Seal(s)
		}
		text, e := crc.Open(s)
		switch {
		case e == api.OK:
			opened++
			if crc.Seal(text) != s {
				t.Errorf("Open(%x) = %x, which is sealed as %x", s, text, crc.Seal(text))
			}
		case text != "" || e != api.ErrTruncated && e != api.ErrCorrupt || (e == api.ErrTruncated) != (len(s) < 4):
			t.Errorf("Open(%x) = %x, %d", s, text, e)
		}
	}
	if opened < 5000 {
		t.Errorf("only %d texts were opened", opened)
	}
}

// P4.7: in each place, of the text and of its checksum, each other byte is detected.
func TestCrcDetects(t *testing.T) {
	for _, s := range []string{"", "a", "123456789", "\x00\x00\x00\x00\x00", "\xff\xff\xff\xff", "points é", allBytes()} {
		sealed := crc.Seal(s)
		for at := range len(sealed) {
			changed := []byte(sealed)
			for range 255 {
				changed[at]++
				checkOpen(t, string(changed), "", api.ErrCorrupt)
			}
			if t.Failed() {
				return
			}
		}
	}
}

// P4.7: the same for long texts, in which a byte stands far from the checksum.
func TestCrcDetectsFarAway(t *testing.T) {
	sealed := crc.Seal(strings.Repeat("section ", 1<<9))
	for _, at := range []int{0, 1, 2, 7, 8, 100, 2048, 4090, 4095, 4096, 4097, 4098, 4099} {
		for _, flipped := range []byte{1, 2, 16, 128, 255} {
			changed := []byte(sealed)
			changed[at] ^= flipped
			checkOpen(t, string(changed), "", api.ErrCorrupt)
		}
	}
}

// P4.8
func TestExclusiveOr(t *testing.T) {
	source := rand.New(rand.NewSource(8))
	for length := range 300 {
		a, b := randomText(source, length), randomText(source, length)
		for _, c := range []string{randomText(source, length), strings.Repeat("\x00", length), strings.Repeat("\xff", length), a} {
			together := make([]byte, length)
			for i := range together {
				together[i] = a[i] ^ b[i] ^ c[i]
			}
			if sum, want := crc.Sum(string(together)), crc.Sum(a)^crc.Sum(b)^crc.Sum(c); sum != want {
				t.Errorf("Sum(%s) = %08x, but the sums of three texts give %08x", short(string(together)), sum, want)
			}
		}
	}
}
