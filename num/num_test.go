package num

import (
	"encoding/binary"
	"math"
	"math/big"
	"math/bits"
	"strings"
	"testing"
)

// edgeInts are ints around the places where sums and products stop to fit.
func edgeInts() []int {
	out := []int{0, math.MinInt, math.MinInt + 1, math.MinInt + 2, math.MaxInt, math.MaxInt - 1}
	for shift := 0; shift < 63; shift++ {
		for _, near := range []int{-1, 0, 1} {
			out = append(out, 1<<shift+near, -1<<shift+near)
		}
	}
	root := 3037000499 // the greatest whose square an int can be
	for _, n := range []int{3, 5, 7, 10, 1000003, root, root + 1, math.MaxInt / 3, math.MinInt / 3} {
		out = append(out, n, -n)
	}
	return out
}

// edgeUints are numbers around each place where one byte more is needed.
func edgeUints() []uint64 {
	out := []uint64{0, 300, math.MaxUint64, math.MaxUint64 - 1}
	for shift := 0; shift < 64; shift++ {
		power := uint64(1) << shift
		out = append(out, power-1, power, power+1)
	}
	return out
}

func checkExact(t *testing.T, name string, a, b int, got int, ok bool, want *big.Int) {
	t.Helper()
	if !want.IsInt64() {
		if got != 0 || ok {
			t.Errorf("%s(%d, %d) = %d, %v; want 0, false", name, a, b, got, ok)
		}
		return
	}
	if int64(got) != want.Int64() || !ok {
		t.Errorf("%s(%d, %d) = %d, %v; want %s, true", name, a, b, got, ok, want)
	}
}

// 1.1
func TestAddAndMulAreExact(t *testing.T) {
	edges := edgeInts()
	for _, a := range edges {
		for _, b := range edges {
			x, y := big.NewInt(int64(a)), big.NewInt(int64(b))
			sum, ok := Add(a, b)
			checkExact(t, "Add", a, b, sum, ok, new(big.Int).Add(x, y))
			product, fits := Mul(a, b)
			checkExact(t, "Mul", a, b, product, fits, new(big.Int).Mul(x, y))
		}
	}
}

// 1.1, written out, so that the edges that matter are seen
func TestAddAtTheEdges(t *testing.T) {
	for _, c := range []struct {
		a, b, want int
		ok         bool
	}{
		{2, 3, 5, true},
		{-2, 3, 1, true},
		{0, 0, 0, true},
		{math.MaxInt, 0, math.MaxInt, true},
		{math.MaxInt - 1, 1, math.MaxInt, true},
		{math.MaxInt, 1, 0, false},
		{1, math.MaxInt, 0, false},
		{math.MaxInt, math.MaxInt, 0, false},
		{math.MinInt, 0, math.MinInt, true},
		{math.MinInt + 1, -1, math.MinInt, true},
		{math.MinInt, -1, 0, false},
		{-1, math.MinInt, 0, false},
		{math.MinInt, math.MinInt, 0, false},
		{math.MinInt, math.MaxInt, -1, true},
	} {
		if got, ok := Add(c.a, c.b); got != c.want || ok != c.ok {
			t.Errorf("Add(%d, %d) = %d, %v", c.a, c.b, got, ok)
		}
	}
}

// 1.1 and the chapter's second example
func TestMulAtTheEdges(t *testing.T) {
	for _, c := range []struct {
		a, b, want int
		ok         bool
	}{
		{6, 7, 42, true},
		{-6, 7, -42, true},
		{0, math.MinInt, 0, true},
		{math.MinInt, 0, 0, true},
		{math.MinInt, 1, math.MinInt, true},
		{1, math.MinInt, math.MinInt, true},
		{math.MinInt, -1, 0, false},
		{-1, math.MinInt, 0, false},
		{math.MaxInt, -1, -math.MaxInt, true},
		{1 << 62, 2, 0, false},
		{1 << 62, -2, math.MinInt, true},
		{-2, 1 << 62, math.MinInt, true},
		{-1 << 62, -2, 0, false},
		{1 << 32, 1 << 32, 0, false},
		{math.MinInt, math.MinInt, 0, false},
		{math.MaxInt, math.MaxInt, 0, false},
	} {
		if got, ok := Mul(c.a, c.b); got != c.want || ok != c.ok {
			t.Errorf("Mul(%d, %d) = %d, %v", c.a, c.b, got, ok)
		}
	}
}

// 1.2
func TestPutIsSevenBitsEachLowestFirst(t *testing.T) {
	for _, c := range []struct {
		n    uint64
		want string
	}{
		{0, "\x00"},
		{1, "\x01"},
		{127, "\x7f"},
		{128, "\x80\x01"},
		{300, "\xac\x02"},
		{16383, "\xff\x7f"},
		{16384, "\x80\x80\x01"},
		{1<<63 - 1, "\xff\xff\xff\xff\xff\xff\xff\xff\x7f"},
		{1 << 63, "\x80\x80\x80\x80\x80\x80\x80\x80\x80\x01"},
		{1<<64 - 1, "\xff\xff\xff\xff\xff\xff\xff\xff\xff\x01"},
	} {
		if got := Put(c.n); got != c.want {
			t.Errorf("Put(%d) = %q, want %q", c.n, got, c.want)
		}
	}
	for _, n := range edgeUints() {
		got := Put(n)
		if want := string(binary.AppendUvarint(nil, n)); got != want {
			t.Errorf("Put(%d) = %q, want %q", n, got, want)
		}
		if want := max(1, (bits.Len64(n)+6)/7); len(got) != want {
			t.Errorf("Put(%d) has %d bytes, want %d", n, len(got), want)
		}
	}
}

// 1.2
func TestTakeRefusesWhatIsNoNumber(t *testing.T) {
	nine := strings.Repeat("\x80", 9)
	full := strings.Repeat("\xff", 9)
	for _, c := range []struct{ why, s string }{
		{"empty", ""},
		{"too few", "\x80"},
		{"too few", "\xff\xff"},
		{"too few", nine},
		{"a last one of 0", "\x80\x00"},
		{"a last one of 0", "\xff\x00"},
		{"a last one of 0", "\x81\x80\x00"},
		{"a last one of 0, at the tenth", full + "\x00"},
		{"a last one of 0, with more behind", "\x80\x00\x01"},
		{"65 bits", nine + "\x02"},
		{"65 bits", full + "\x03"},
		{"70 bits", full + "\x7f"},
		{"ten bytes, and none is the last", nine + "\x80"},
		{"ten bytes, and none is the last", nine + "\x81"},
		{"eleven bytes", full + "\x81\x01"},
		{"eleven bytes", nine + "\x80\x01"},
		{"many bytes", strings.Repeat("\xff", 1000) + "\x01"},
		{"many bytes", strings.Repeat("\x80", 1000)},
	} {
		if n, size := Take(c.s); n != 0 || size != 0 {
			t.Errorf("%s: Take(%q) = %d, %d", c.why, c.s, n, size)
		}
	}
}

// 1.2: each text of two bytes, and each of three whose last is at an edge
func TestTakeOfAllShortTexts(t *testing.T) {
	for first := range 256 {
		for second := range 256 {
			checkTake(t, string([]byte{byte(first), byte(second)}))
			for _, third := range []byte{0, 1, 127, 128, 255} {
				checkTake(t, string([]byte{byte(first), byte(second), third}))
			}
		}
	}
}

// checkTake holds Take against what the words say of bytes: the shortest beginning that ends, unless its end is a needless 0.
func checkTake(t *testing.T, s string) {
	t.Helper()
	want, length := binary.Uvarint([]byte(s))
	if length <= 0 || length > 1 && s[length-1] == 0 {
		want, length = 0, 0
	}
	if n, size := Take(s); n != want || size != length {
		t.Errorf("Take(%q) = %d, %d; want %d, %d", s, n, size, want, length)
	}
}

// 1.4
func TestWhatIsPutIsTakenWhateverStandsBehind(t *testing.T) {
	for _, n := range edgeUints() {
		put := Put(n)
		for _, behind := range []string{"", "\x00", "\x01", "\x80", "\xff", "\x80\x00", put, strings.Repeat("\xff", 20)} {
			if got, size := Take(put + behind); got != n || size != len(put) {
				t.Errorf("Take(%q) = %d, %d; want %d, %d", put+behind, got, size, n, len(put))
			}
		}
		for short := range len(put) {
			if got, size := Take(put[:short]); got != 0 || size != 0 {
				t.Errorf("Take(%q) = %d, %d; want 0, 0", put[:short], got, size)
			}
		}
	}
}

// 1.4
func FuzzWhatIsTakenIsPutAgain(f *testing.F) {
	for _, s := range []string{"", "\x00", "\x80", "\x80\x00", "\xac\x02", "\xac\x02rest", "\xff\xff\xff\xff\xff\xff\xff\xff\xff\x01", "\xff\xff\xff\xff\xff\xff\xff\xff\xff\x02"} {
		f.Add(s)
	}
	f.Fuzz(func(t *testing.T, s string) {
		checkTake(t, s)
		n, size := Take(s)
		if size > 0 && Put(n) != s[:size] {
			t.Errorf("Take(%q) = %d, %d; Put tells %q", s, n, size, Put(n))
		}
	})
}

// 1.3
func TestTextIsDecimal(t *testing.T) {
	for _, c := range []struct {
		n    int
		want string
	}{
		{0, "0"},
		{7, "7"},
		{-7, "-7"},
		{10, "10"},
		{-10, "-10"},
		{99, "99"},
		{100, "100"},
		{1200, "1200"},
		{math.MaxInt, "9223372036854775807"},
		{math.MinInt, "-9223372036854775808"},
	} {
		if got := Text(c.n); got != c.want {
			t.Errorf("Text(%d) = %q, want %q", c.n, got, c.want)
		}
	}
	for _, n := range edgeInts() {
		if got, want := Text(n), big.NewInt(int64(n)).String(); got != want {
			t.Errorf("Text(%d) = %q, want %q", n, got, want)
		}
	}
}

// 1.3
func TestParseFromNoughtToMost(t *testing.T) {
	for _, c := range []struct {
		s       string
		most, n int
	}{
		{"0", 0, 0},
		{"0", math.MaxInt, 0},
		{"9", 9, 9},
		{"12", 12, 12},
		{"12", 13, 12},
		{"100", 100, 100},
		{"65535", 65535, 65535},
		{"9223372036854775806", math.MaxInt, math.MaxInt - 1},
		{"9223372036854775807", math.MaxInt, math.MaxInt},
	} {
		if n, ok := Parse(c.s, c.most); n != c.n || !ok {
			t.Errorf("Parse(%q, %d) = %d, %v; want %d, true", c.s, c.most, n, ok, c.n)
		}
	}
}

// 1.3
func TestParseRefusesOthers(t *testing.T) {
	refused := []string{
		"", "-", "+", "--1", "-1", "-0", "+0", "+1", "-9223372036854775808",
		"00", "01", "007", "-01", "00000000000000000000000000000001",
		" ", " 1", "1 ", "1\n", "1\x00", "\x001", "1 2",
		"a", "1a", "a1", "0x1", "0b1", "0o7", "1e3", "1.0", ".", "1_000", "1,000", "/", ":", "1/", "1:",
		"\u0661", "\u00b2", "\uff11", "\xff", "1\xff",
		"9223372036854775808", "9223372036854775817", "10000000000000000000",
		"18446744073709551615", "18446744073709551616", "18446744073709551617", "99999999999999999999",
		strings.Repeat("9", 1000), strings.Repeat("0", 1000), "1" + strings.Repeat("0", 1000),
	}
	for _, s := range refused {
		if n, ok := Parse(s, math.MaxInt); n != 0 || ok {
			t.Errorf("Parse(%q) = %d, %v; want 0, false", s, n, ok)
		}
	}
}

// 1.3
func TestParseRefusesAboveMost(t *testing.T) {
	for _, c := range []struct {
		s    string
		most int
	}{
		{"1", 0},
		{"13", 12},
		{"100", 99},
		{"9223372036854775807", math.MaxInt - 1},
		{"0", -1},
		{"1", -1},
		{"-1", -1},
		{"-1", 0},
		{"0", math.MinInt},
		{"-9223372036854775808", math.MinInt},
	} {
		if n, ok := Parse(c.s, c.most); n != 0 || ok {
			t.Errorf("Parse(%q, %d) = %d, %v; want 0, false", c.s, c.most, n, ok)
		}
	}
}

// 1.4
func TestTextsAreReadAsTheyWereWritten(t *testing.T) {
	for _, n := range edgeInts() {
		got, ok := Parse(Text(n), math.MaxInt)
		if n < 0 && (got != 0 || ok) || n >= 0 && (got != n || !ok) {
			t.Errorf("Parse(Text(%d)) = %d, %v", n, got, ok)
		}
		if n < 0 {
			continue
		}
		if got, ok := Parse(Text(n), n); got != n || !ok {
			t.Errorf("Parse(Text(%d), %d) = %d, %v", n, n, got, ok)
		}
		if got, ok := Parse(Text(n), n-1); got != 0 || ok {
			t.Errorf("Parse(Text(%d), %d) = %d, %v", n, n-1, got, ok)
		}
	}
}

// 1.4
func FuzzWhatIsParsedIsWrittenAgain(f *testing.F) {
	for _, s := range []string{"", "-", "0", "00", "7", "-7", "+7", "1_0", "9223372036854775807", "9223372036854775808"} {
		f.Add(s, math.MaxInt)
		f.Add(s, 7)
		f.Add(s, -1)
	}
	f.Fuzz(func(t *testing.T, s string, most int) {
		want, isNumber := new(big.Int).SetString(s, 10)
		inRange := isNumber && want.String() == s && want.Sign() >= 0 && want.Cmp(big.NewInt(int64(most))) <= 0
		n, ok := Parse(s, most)
		if ok != inRange {
			t.Fatalf("Parse(%q, %d) = %d, %v; want %v", s, most, n, ok, inRange)
		}
		if ok && Text(n) != s || !ok && n != 0 {
			t.Errorf("Parse(%q, %d) = %d, %v", s, most, n, ok)
		}
	})
}
