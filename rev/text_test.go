package rev

import (
	"math"
	"math/big"
	"math/rand"
	"strings"
	"testing"
)

// edgeNumbers are numbers of each length that a number of 64 bits can have, as digits and as bits.
func edgeNumbers() []uint64 {
	out := []uint64{0, 7, 1200, 1203004, 12345678901234567890, math.MaxUint64 - 1, math.MaxUint64}
	for shift := range 64 {
		power := uint64(1) << shift
		out = append(out, power-1, power, power+1)
	}
	for power := uint64(1); ; power *= 10 {
		out = append(out, power-1, power, power+1, power*9/8)
		if power == 1e19 {
			return out
		}
	}
}

// wantParse says what the words say of a text: one by one its bytes are digits, none is a 0 ahead, and 64 bits are enough.
func wantParse(s string) (uint64, bool) {
	for i := range len(s) {
		if s[i] < '0' || s[i] > '9' {
			return 0, false
		}
	}
	if s == "" || s != "0" && s[0] == '0' {
		return 0, false
	}
	n, ok := new(big.Int).SetString(s, 10)
	if !ok || !n.IsUint64() {
		return 0, false
	}
	return n.Uint64(), true
}

// checkParse holds Parse against the words, and a number that it tells against its text.
func checkParse(t *testing.T, s string) {
	t.Helper()
	want, wantOk := wantParse(s)
	n, ok := Parse(s)
	if n != want || ok != wantOk {
		t.Fatalf("Parse(%q) = %d, %v; want %d, %v", s, n, ok, want, wantOk)
	}
	if ok && Text(n) != s {
		t.Fatalf("Parse(%q) = %d, whose text is %q", s, n, Text(n))
	}
}

// 10.2
func TestTextIsDecimal(t *testing.T) {
	for _, c := range []struct {
		n    uint64
		want string
	}{
		{0, "0"},
		{1, "1"},
		{9, "9"},
		{10, "10"},
		{99, "99"},
		{100, "100"},
		{101, "101"},
		{1200, "1200"},
		{math.MaxInt, "9223372036854775807"},
		{1 << 63, "9223372036854775808"},
		{1e19 - 1, "9999999999999999999"},
		{1e19, "10000000000000000000"},
		{math.MaxUint64 - 1, "18446744073709551614"},
		{math.MaxUint64, "18446744073709551615"},
	} {
		if got := Text(c.n); got != c.want {
			t.Errorf("Text(%d) = %q, want %q", c.n, got, c.want)
		}
	}
	for _, n := range edgeNumbers() {
		if got, want := Text(n), new(big.Int).SetUint64(n).String(); got != want {
			t.Errorf("Text(%d) = %q, want %q", n, got, want)
		}
	}
}

// 10.2
func TestTextsAreParsedAsTheyWereWritten(t *testing.T) {
	numbers := edgeNumbers()
	for n := range uint64(2000) {
		numbers = append(numbers, n)
	}
	rng := rand.New(rand.NewSource(2))
	for range 2000 {
		numbers = append(numbers, rng.Uint64()>>rng.Intn(64))
	}
	for _, n := range numbers {
		s := Text(n)
		if got, ok := Parse(s); got != n || !ok {
			t.Errorf("Parse(%q) = %d, %v", s, got, ok)
		}
		for _, other := range []string{"0" + s, "00" + s, "+" + s, "-" + s, " " + s, s + " ", s + "\n", s + "\x00", s + "a", s + ".0", "_" + s, s + "_", "0x" + s} {
			if got, ok := Parse(other); got != 0 || ok {
				t.Errorf("Parse(%q) = %d, %v; want 0, false", other, got, ok)
			}
		}
	}
}

// 10.2
func TestParseRefusesOthers(t *testing.T) {
	refused := []string{
		"", "-", "+", "--1", "-1", "-0", "+0", "+1", "++1", "-18446744073709551615", "-18446744073709551616",
		"00", "01", "007", "-01", "00000000000000000000", "000000000000000000001", "018446744073709551615",
		" ", " 1", "1 ", "1\n", "\n1", "\t1", "1\r\n", "1\x00", "\x001", "1 2", "1\u00a0",
		"a", "A", "1a", "a1", "f", "0x1", "0X1", "0b1", "0o7", "1e3", "1E3", "1.0", "1.", ".", ".1", "inf", "nan",
		"1_000", "_1", "1_", "1,000", "/", ":", "1/", "1:", "/1", ":1", "'1'", "\"1\"", "10/2",
		"\u0661", "\u0967", "\u00b2", "\u00bd", "\uff11", "\U0001d7cf", "1\u0661", "\u06611", "\xff", "1\xff", "\xb1", "\xc0\xb1",
		"18446744073709551616", "18446744073709551617", "18446744073709551620", "18446744073709551625", "18446744073709551700",
		"18446744073709552000", "20000000000000000000", "36893488147419103232", "99999999999999999999", "100000000000000000000",
		"184467440737095516150", "184467440737095516160", "340282366920938463463374607431768211456",
		strings.Repeat("9", 1000), strings.Repeat("0", 1000), "1" + strings.Repeat("0", 1000), strings.Repeat("0", 1000) + "1", strings.Repeat("1", 100000),
	}
	for _, s := range refused {
		if n, ok := Parse(s); n != 0 || ok {
			t.Errorf("Parse(%q) = %d, %v; want 0, false", s, n, ok)
		}
	}
}

// 10.2: around the greatest number, where a sum of 64 bits wraps round to a small one
func TestParseAroundTheGreatest(t *testing.T) {
	greatest := new(big.Int).SetUint64(math.MaxUint64)
	for _, times := range []int64{1, 2, 3, 9, 10, 11, 100, 1 << 40} {
		middle := new(big.Int).Mul(greatest, big.NewInt(times))
		for step := int64(-300); step <= 300; step++ {
			checkParse(t, new(big.Int).Add(middle, big.NewInt(step)).String())
		}
	}
}

// 10.2: each text of at most two bytes, and each of at most five out of some that are near to digits
func TestParseOfAllShortTexts(t *testing.T) {
	checkParse(t, "")
	for first := range 256 {
		checkParse(t, string([]byte{byte(first)}))
		for second := range 256 {
			checkParse(t, string([]byte{byte(first), byte(second)}))
		}
	}
	const near = "0129-+_ "
	shorter := []string{""}
	for range 5 {
		longer := make([]string, 0, len(shorter)*len(near))
		for _, s := range shorter {
			for i := range len(near) {
				longer = append(longer, s+near[i:i+1])
			}
		}
		for _, s := range longer {
			checkParse(t, s)
		}
		shorter = longer
	}
}

// 10.2
func TestParseAtRandom(t *testing.T) {
	rng := rand.New(rand.NewSource(3))
	for range 20000 {
		digits := make([]byte, rng.Intn(24))
		for i := range digits {
			digits[i] = byte('0' + rng.Intn(10))
		}
		if len(digits) > 0 && rng.Intn(4) == 0 {
			digits[rng.Intn(len(digits))] = byte(rng.Intn(256))
		}
		checkParse(t, string(digits))
	}
}

// 10.2
func FuzzParse(f *testing.F) {
	for _, s := range []string{"", "-", "+7", "0", "00", "7", "007", "1_0", "0x7", "18446744073709551615", "18446744073709551616", "\u0661"} {
		f.Add(s)
	}
	f.Fuzz(func(t *testing.T, s string) { checkParse(t, s) })
}
