package tests

import (
	"math"
	"math/big"
	"strconv"
	"strings"
	"testing"

	"loop.example/grain/impl"
)

const allDigits = "0123456789abcdefghijklmnopqrstuvwxyz"

var wrongBases = []int{math.MinInt, -36, -10, -2, -1, 0, 1, 37, 38, 64, 256 + 10, math.MaxInt}

// sampleInts are the ints at which bits, signs and lengths change, and some from everywhere between.
func sampleInts() []int64 {
	out := []int64{0, math.MinInt64, math.MaxInt64}
	for bit := range 64 {
		power := int64(1) << bit
		out = append(out, power-1, power, power+1, -power-1, -power, -power+1)
	}
	for _, base := range []int64{3, 7, 10, 11, 35, 36} {
		for power := base; power < math.MaxInt64/base; power *= base {
			out = append(out, power-1, power, -power, 1-power)
		}
	}
	word := uint64(1)
	for i := range 200 {
		word = word*6364136223846793005 + 1442695040888963407
		out = append(out, int64(word), int64(word)>>(i%64))
	}
	return out
}

func wantRead(t *testing.T, text string, base int, want impl.Whole) {
	t.Helper()
	if got := impl.ReadInt(text, base); got != want {
		if len(text) > 80 {
			text = text[:80] + ".."
		}
		t.Errorf("ReadInt(%q, %d) = %+v, want %+v", text, base, got, want)
	}
}

func TestReadIntOrdinary(t *testing.T) {
	for _, c := range []struct {
		text string
		base int
		num  int64
	}{
		{"0", 10, 0}, {"-0", 10, 0}, {"+0", 10, 0}, {"000", 2, 0},
		{"1", 2, 1}, {"-1", 2, -1}, {"+1", 2, 1}, {"101", 2, 5}, {"-101", 2, -5},
		{"12", 3, 5}, {"017", 8, 15}, {"42", 10, 42}, {"-42", 10, -42}, {"+42", 10, 42},
		{"00042", 10, 42}, {"-00042", 10, -42},
		{"ff", 16, 255}, {"-ff", 16, -255}, {"+7f", 16, 127}, {"beef", 16, 48879},
		{"z", 36, 35}, {"10", 36, 36}, {"-zz", 36, -1295}, {"heddle", 36, 1052063762},
		{"0x10", 36, 42804}, {"e1", 36, 505},
	} {
		wantRead(t, c.text, c.base, impl.Whole{Num: c.num})
	}
}

func TestReadIntWrongBase(t *testing.T) {
	for _, base := range wrongBases {
		for _, text := range []string{"", "0", "1", "-1", "?", strings.Repeat("9", 30), strings.Repeat("0", 1201)} {
			wantRead(t, text, base, impl.Whole{Code: 1})
		}
	}
	for _, base := range []int{2, 36} {
		wantRead(t, "1", base, impl.Whole{Num: 1})
	}
}

func TestReadIntLongText(t *testing.T) {
	if impl.MaxText != 1200 {
		t.Fatal(impl.MaxText)
	}
	for base := 2; base <= 36; base++ {
		wantRead(t, strings.Repeat("0", 1199)+"1", base, impl.Whole{Num: 1})
		wantRead(t, strings.Repeat("0", 1200)+"1", base, impl.Whole{Code: 1})
		wantRead(t, "-"+strings.Repeat("0", 1198)+"1", base, impl.Whole{Num: -1})
		wantRead(t, "-"+strings.Repeat("0", 1199)+"1", base, impl.Whole{Code: 1})
		wantRead(t, strings.Repeat("1", 1200), base, impl.Whole{Code: 3})
		wantRead(t, strings.Repeat("1", 1201), base, impl.Whole{Code: 1})
		wantRead(t, strings.Repeat("1", 1199)+"?", base, impl.Whole{Code: 2})
		wantRead(t, strings.Repeat("1", 1200)+"?", base, impl.Whole{Code: 1})
	}
}

func TestReadIntWrongText(t *testing.T) {
	for _, text := range []string{
		"", "-", "+", "--1", "++1", "+-1", "-+1", "1-", "1+", "- 1", " 1", "1 ", "1\n", "1_000", "1.0", "1,0", "1e1", "0x1",
		"a", "A", "1A", "1a", "\x00", "1\x00", "\u0661", "1\u0661", "\uff11", "\u22121", "\xff", "1\x80", "/", ":",
	} {
		wantRead(t, text, 10, impl.Whole{Code: 2})
	}
	for _, text := range []string{"A", "F", "1F", "fF", "g", "0x1", "`", "{", "@"} {
		wantRead(t, text, 16, impl.Whole{Code: 2})
	}
	for _, text := range []string{"Z", "{", "`", "@", "[", "zZ"} {
		wantRead(t, text, 36, impl.Whole{Code: 2})
	}
	for base := 2; base <= 36; base++ {
		for _, text := range []string{"", "-", "+"} {
			wantRead(t, text, base, impl.Whole{Code: 2})
		}
	}
}

func TestReadIntEveryByte(t *testing.T) {
	for base := 2; base <= 36; base++ {
		for c := range 256 {
			value := strings.IndexByte(allDigits[:base], byte(c))
			digit := string([]byte{byte(c)})
			if value < 0 {
				wantRead(t, "1"+digit, base, impl.Whole{Code: 2})
				wantRead(t, "-1"+digit, base, impl.Whole{Code: 2})
				continue
			}
			wantRead(t, digit, base, impl.Whole{Num: int64(value)})
			wantRead(t, "1"+digit, base, impl.Whole{Num: int64(base + value)})
			wantRead(t, "-1"+digit, base, impl.Whole{Num: -int64(base + value)})
		}
	}
}

// readWith is the same question asked of numbers without an end.
func readWith(num *big.Int) impl.Whole {
	if !num.IsInt64() {
		return impl.Whole{Code: 3}
	}
	return impl.Whole{Num: num.Int64()}
}

func TestReadIntRange(t *testing.T) {
	for _, c := range []struct {
		text string
		want impl.Whole
	}{
		{"9223372036854775806", impl.Whole{Num: math.MaxInt64 - 1}},
		{"9223372036854775807", impl.Whole{Num: math.MaxInt64}},
		{"+9223372036854775807", impl.Whole{Num: math.MaxInt64}},
		{"9223372036854775808", impl.Whole{Code: 3}},
		{"+9223372036854775808", impl.Whole{Code: 3}},
		{"-9223372036854775807", impl.Whole{Num: -math.MaxInt64}},
		{"-9223372036854775808", impl.Whole{Num: math.MinInt64}},
		{"-9223372036854775809", impl.Whole{Code: 3}},
		{"18446744073709551615", impl.Whole{Code: 3}},
		{"18446744073709551616", impl.Whole{Code: 3}},
		{"-18446744073709551617", impl.Whole{Code: 3}},
		{"-00009223372036854775808", impl.Whole{Num: math.MinInt64}},
	} {
		wantRead(t, c.text, 10, c.want)
	}
	for base := 2; base <= 36; base++ {
		for bit := range 200 {
			for by := int64(-37); by <= 37; by++ {
				num := new(big.Int).Lsh(big.NewInt(1), uint(bit))
				num.Add(num, big.NewInt(by))
				wantRead(t, num.Text(base), base, readWith(num))
				num.Neg(num)
				wantRead(t, num.Text(base), base, readWith(num))
			}
		}
	}
}

func TestReadIntWrongDigitBehindTooGreat(t *testing.T) {
	for base := 2; base <= 36; base++ {
		great := strings.Repeat(allDigits[base-1:base], 70)
		wantRead(t, great, base, impl.Whole{Code: 3})
		wantRead(t, "-"+great, base, impl.Whole{Code: 3})
		for _, wrong := range []string{"?", "A", "-", " ", "\xff"} {
			wantRead(t, great+wrong, base, impl.Whole{Code: 2})
			wantRead(t, "-"+great+wrong, base, impl.Whole{Code: 2})
			wantRead(t, great+wrong+"1", base, impl.Whole{Code: 2})
		}
		if base < 36 {
			wantRead(t, great+allDigits[base:base+1], base, impl.Whole{Code: 2})
		}
		// zeros behind it, under which a number modulo 2^64 may fit again
		wantRead(t, "1"+strings.Repeat("0", 200), base, impl.Whole{Code: 3})
		wantRead(t, "-1"+strings.Repeat("0", 200)+"1", base, impl.Whole{Code: 3})
	}
}

func TestWriteInt(t *testing.T) {
	for _, c := range []struct {
		n    int64
		base int
		want string
	}{
		{0, 2, "0"}, {0, 36, "0"}, {1, 2, "1"}, {-1, 2, "-1"}, {5, 2, "101"}, {-5, 3, "-12"},
		{42, 10, "42"}, {-42, 10, "-42"}, {255, 16, "ff"}, {-255, 16, "-ff"}, {1295, 36, "zz"}, {-1296, 36, "-100"},
		{math.MaxInt64, 10, "9223372036854775807"},
		{math.MinInt64, 10, "-9223372036854775808"},
		{math.MinInt64, 16, "-8000000000000000"},
		{math.MinInt64, 2, "-1" + strings.Repeat("0", 63)},
		{math.MaxInt64, 2, strings.Repeat("1", 63)},
	} {
		if got := impl.WriteInt(c.n, c.base); got != c.want {
			t.Errorf("WriteInt(%d, %d) = %q, want %q", c.n, c.base, got, c.want)
		}
	}
	for base := 2; base <= 36; base++ {
		for _, n := range sampleInts() {
			if got, want := impl.WriteInt(n, base), strconv.FormatInt(n, base); got != want {
				t.Errorf("WriteInt(%d, %d) = %q, want %q", n, base, got, want)
			}
		}
	}
}

func TestWriteBits(t *testing.T) {
	for _, c := range []struct {
		n    int64
		base int
		want string
	}{
		{0, 2, "0"}, {0, 10, "0"}, {255, 16, "ff"}, {-1, 10, "18446744073709551615"},
		{-1, 16, "ffffffffffffffff"}, {-1, 2, strings.Repeat("1", 64)},
		{math.MinInt64, 16, "8000000000000000"}, {math.MaxInt64, 16, "7fffffffffffffff"},
		{math.MinInt64, 10, "9223372036854775808"},
	} {
		if got := impl.WriteBits(c.n, c.base); got != c.want {
			t.Errorf("WriteBits(%d, %d) = %q, want %q", c.n, c.base, got, c.want)
		}
	}
	for base := 2; base <= 36; base++ {
		for _, n := range sampleInts() {
			if got, want := impl.WriteBits(n, base), strconv.FormatUint(uint64(n), base); got != want {
				t.Errorf("WriteBits(%d, %d) = %q, want %q", n, base, got, want)
			}
		}
	}
}

func TestWriteWrongBase(t *testing.T) {
	for _, base := range wrongBases {
		for _, n := range []int64{0, 1, -1, math.MinInt64, math.MaxInt64} {
			if got := impl.WriteInt(n, base); got != "" {
				t.Errorf("WriteInt(%d, %d) = %q", n, base, got)
			}
			if got := impl.WriteBits(n, base); got != "" {
				t.Errorf("WriteBits(%d, %d) = %q", n, base, got)
			}
		}
	}
}

func TestIntsReadBack(t *testing.T) {
	for base := 2; base <= 36; base++ {
		for n := int64(-1500); n <= 1500; n++ {
			wantRead(t, impl.WriteInt(n, base), base, impl.Whole{Num: n})
		}
		for _, n := range sampleInts() {
			wantRead(t, impl.WriteInt(n, base), base, impl.Whole{Num: n})
		}
	}
}

// divideWith is the quotient rounded down by numbers without an end, then wrapped.
func divideWith(a, b int64) impl.Divided {
	wideA, wideB := big.NewInt(a), big.NewInt(b)
	quot, rest := new(big.Int).QuoRem(wideA, wideB, new(big.Int))
	if rest.Sign()*wideB.Sign() < 0 {
		quot.Sub(quot, big.NewInt(1))
	}
	rest.Sub(wideA, rest.Mul(wideB, quot))
	return impl.Divided{Quot: wrapped(quot), Rest: wrapped(rest)}
}

func wrapped(num *big.Int) int64 {
	mask := new(big.Int).SetUint64(math.MaxUint64)
	return int64(mask.And(mask, num).Uint64())
}

func TestDivide(t *testing.T) {
	for _, c := range []struct {
		a, b int64
		want impl.Divided
	}{
		{7, 2, impl.Divided{Quot: 3, Rest: 1}},
		{-7, 2, impl.Divided{Quot: -4, Rest: 1}},
		{7, -2, impl.Divided{Quot: -4, Rest: -1}},
		{-7, -2, impl.Divided{Quot: 3, Rest: -1}},
		{6, 3, impl.Divided{Quot: 2}},
		{-6, 3, impl.Divided{Quot: -2}},
		{6, -3, impl.Divided{Quot: -2}},
		{-6, -3, impl.Divided{Quot: 2}},
		{0, 5, impl.Divided{}},
		{0, -5, impl.Divided{}},
		{1, 5, impl.Divided{Rest: 1}},
		{-1, 5, impl.Divided{Quot: -1, Rest: 4}},
		{1, -5, impl.Divided{Quot: -1, Rest: -4}},
		{-1, -5, impl.Divided{Rest: -1}},
		{math.MinInt64, -1, impl.Divided{Quot: math.MinInt64}},
		{math.MinInt64, 1, impl.Divided{Quot: math.MinInt64}},
		{math.MaxInt64, -1, impl.Divided{Quot: -math.MaxInt64}},
		{math.MinInt64, math.MaxInt64, impl.Divided{Quot: -2, Rest: math.MaxInt64 - 1}},
		{math.MaxInt64, math.MinInt64, impl.Divided{Quot: -1, Rest: -1}},
		{math.MinInt64, math.MinInt64, impl.Divided{Quot: 1}},
		{1, math.MinInt64, impl.Divided{Quot: -1, Rest: math.MinInt64 + 1}},
		{-1, math.MaxInt64, impl.Divided{Quot: -1, Rest: math.MaxInt64 - 1}},
	} {
		if got := impl.Divide(c.a, c.b); got != c.want {
			t.Errorf("Divide(%d, %d) = %+v, want %+v", c.a, c.b, got, c.want)
		}
	}
}

func TestDivideByZero(t *testing.T) {
	for _, a := range sampleInts() {
		if got := impl.Divide(a, 0); got != (impl.Divided{Code: 1}) {
			t.Errorf("Divide(%d, 0) = %+v", a, got)
		}
	}
}

func TestDivideGivesBack(t *testing.T) {
	check := func(a, b int64) {
		if b == 0 {
			return
		}
		got := impl.Divide(a, b)
		if want := divideWith(a, b); got != want {
			t.Errorf("Divide(%d, %d) = %+v, want %+v", a, b, got, want)
		}
		if b*got.Quot+got.Rest != a {
			t.Errorf("Divide(%d, %d) = %+v does not give a back", a, b, got)
		}
		if got.Rest != 0 && (got.Rest < 0) != (b < 0) {
			t.Errorf("Divide(%d, %d) = %+v: the rest has not b's sign", a, b, got)
		}
	}
	for a := int64(-40); a <= 40; a++ {
		for b := int64(-40); b <= 40; b++ {
			check(a, b)
		}
	}
	ints := sampleInts()
	for i, a := range ints {
		for j := i % 7; j < len(ints); j += 7 {
			check(a, ints[j])
		}
	}
}

// shiftWith moves one bit at a time, by doubling and halving.
func shiftWith(n int64, by int) int64 {
	word := uint64(n)
	for ; by > 0; by-- {
		word *= 2
	}
	for ; by < 0; by++ {
		word /= 2
	}
	return int64(word)
}

func TestShift(t *testing.T) {
	for _, c := range []struct {
		n    int64
		by   int
		want int64
	}{
		{5, 0, 5}, {-5, 0, -5}, {5, 1, 10}, {-5, 1, -10}, {5, -1, 2}, {-1, -1, math.MaxInt64}, {-2, -1, math.MaxInt64},
		{1, 63, math.MinInt64}, {2, 63, 0}, {3, 63, math.MinInt64}, {-1, 63, math.MinInt64},
		{-1, -63, 1}, {math.MinInt64, -63, 1}, {math.MaxInt64, -63, 0}, {math.MinInt64, 1, 0},
		{-1, 64, 0}, {-1, -64, 0}, {-1, 65, 0}, {-1, -65, 0}, {1, 128, 0}, {1, -128, 0}, {1, 256, 0}, {1, -256, 0},
		{-1, math.MaxInt, 0}, {-1, math.MinInt, 0}, {-1, math.MinInt + 1, 0}, {1, 1 << 32, 0}, {1, -1 << 32, 0},
	} {
		if got := impl.Shift(c.n, c.by); got != c.want {
			t.Errorf("Shift(%d, %d) = %d, want %d", c.n, c.by, got, c.want)
		}
	}
	for _, n := range sampleInts() {
		for by := -130; by <= 130; by++ {
			if got, want := impl.Shift(n, by), shiftWith(n, by); got != want {
				t.Errorf("Shift(%d, %d) = %d, want %d", n, by, got, want)
			}
		}
		for _, by := range []int{math.MinInt, math.MaxInt} {
			if got := impl.Shift(n, by); got != 0 {
				t.Errorf("Shift(%d, %d) = %d, want 0", n, by, got)
			}
		}
	}
}
