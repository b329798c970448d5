package tests

import (
	"math"
	"math/big"
	"math/rand/v2"
	"regexp"
	"strconv"
	"strings"
	"testing"

	"loop.example/grain/impl"
)

// wantFlt asks for the float of a text without a sign, and for it with each sign.
func wantFlt(t *testing.T, text string, want float64) {
	t.Helper()
	wantOneFlt(t, text, want)
	if len(text) < impl.MaxText {
		wantOneFlt(t, "+"+text, want)
		wantOneFlt(t, "-"+text, math.Copysign(want, -1))
	}
}

func wantOneFlt(t *testing.T, text string, want float64) {
	t.Helper()
	if got := impl.ReadFlt(text); !got.Ok || got.At != 0 || !sameFloat(got.Flt, want) {
		t.Errorf("ReadFlt(%q) = %+v (%x), want %x", text, got, got.Flt, want)
	}
}

func wantBreak(t *testing.T, text string, at int) {
	t.Helper()
	if got, want := impl.ReadFlt(text), (impl.Read{At: at}); got != want || math.Signbit(got.Flt) {
		t.Errorf("ReadFlt(%q) = %+v, want %+v", text, got, want)
	}
}

func zeros(n int) string { return strings.Repeat("0", n) }

func nines(n int) string { return strings.Repeat("9", n) }

func TestReadFltWords(t *testing.T) {
	wantFlt(t, "inf", infinity)
	wantFlt(t, "nan", math.NaN())
}

func TestReadFltDecimals(t *testing.T) {
	for _, c := range []struct {
		text string
		want float64
	}{
		{"0", 0}, {"1", 1}, {"2", 2}, {"9", 9}, {"10", 10}, {"1234567890", 1234567890}, {"007", 7}, {"100", 100},
		{"0.5", 0.5}, {"1.5", 1.5}, {"00.50", 0.5}, {"1.0", 1}, {"1.000", 1}, {"12.25", 12.25}, {"0.1", 0.1}, {"0.3", 0.3},
		{"3.141592653589793", math.Pi}, {"0.0001", 0.0001}, {"1000000.0000001", 1000000.0000001},
		{"1e0", 1}, {"1e1", 10}, {"1e+1", 10}, {"1e-1", 0.1}, {"25e-2", 0.25}, {"1e22", 1e22}, {"1e23", 1e23}, {"1e-23", 1e-23},
		{"1.5e3", 1500}, {"1.5e+3", 1500}, {"1.5e-3", 0.0015}, {"1.25e0", 1.25}, {"1.25e1", 12.5}, {"1.25e2", 125}, {"1.25e3", 1250},
		{"1e+0", 1}, {"1e-0", 1}, {"1e00", 1}, {"1e007", 1e7}, {"1e-007", 1e-7}, {"0.1e1", 1}, {"0.01e+2", 1}, {"100e-2", 1},
		{"1e300", 1e300}, {"1e-300", 1e-300}, {"1e308", 1e308}, {"1e-308", 1e-308}, {"123e306", 1.23e308},
		{"18446744073709551615", 0x1p64}, {"18446744073709551616", 0x1p64}, {"9223372036854775807", two63},
	} {
		wantFlt(t, c.text, c.want)
	}
}

func TestReadFltHexes(t *testing.T) {
	for _, c := range []struct {
		text string
		want float64
	}{
		{"0x0", 0}, {"0x1", 1}, {"0x9", 9}, {"0xa", 10}, {"0xf", 15}, {"0x10", 16}, {"0xff", 255}, {"0x1e5", 485}, {"0xe", 14},
		{"0xabcdef", 0xabcdef}, {"0x0123456789", 0x123456789}, {"0x0001", 1}, {"0x00ff.ff00", 0xff.ffp0},
		{"0x0.8", 0.5}, {"0x1.8", 1.5}, {"0x1.80", 1.5}, {"0x0.1", 0.0625}, {"0xf.f", 15.9375}, {"0x1.08", 1.03125},
		{"0x1p0", 1}, {"0x1p1", 2}, {"0x1p+1", 2}, {"0x1p-1", 0.5}, {"0x1p10", 1024}, {"0x1p010", 1024}, {"0x1p-10", 1.0 / 1024},
		{"0x1p9", 512}, {"0x10p-4", 1}, {"0x0.1p4", 1}, {"0x0.01p+8", 1}, {"0x1.8p1", 3}, {"0x1.8p+1", 3}, {"0x1.8p-1", 0.75},
		{"0x1.8p0", 1.5}, {"0xep1", 28}, {"0x1p1023", 0x1p1023}, {"0x1p-1022", normal}, {"0x1p-1074", least},
		{"0x1.fffffffffffffp1023", math.MaxFloat64}, {"0x1fffffffffffffp971", math.MaxFloat64},
		{"0xffffffffffffffff", 0x1p64}, {"0xfffffffffffff800", 0xfffffffffffff800}, {"0x8000000000000000", two63},
		{"0x10000000000000000", 0x1p64}, {"0x0.0000000000000001", 0x1p-64},
	} {
		wantFlt(t, c.text, c.want)
	}
}

func TestReadFltZeros(t *testing.T) {
	for _, digits := range []string{"0", "00", "0.0", "0.000", "000.0", zeros(700), "0." + zeros(700), zeros(300) + "." + zeros(300)} {
		for _, power := range []string{"0", "1", "+1", "-1", "309", "-400", "99999", "-99999", "9223372036854775807", "-9223372036854775808",
			"9223372036854775808", "18446744073709551616", "-18446744073709551616", nines(400), "-" + nines(400), "+" + nines(400)} {
			wantFlt(t, digits, 0)
			wantFlt(t, digits+"e"+power, 0)
			wantFlt(t, "0x"+digits, 0)
			wantFlt(t, "0x"+digits+"p"+power, 0)
		}
	}
}

// places is how many decimal digits stand behind the point of a number that is whole times a power of two.
func places(num *big.Rat) int { return num.Denom().BitLen() - 1 }

func decimalOf(num *big.Rat) string { return num.FloatString(places(num)) }

func hexOf(num *big.Rat) string {
	return "0x" + num.Num().Text(16) + "p-" + strconv.Itoa(places(num))
}

// withoutPoint is a decimal with its digits as one whole number and a power.
func withoutPoint(text string) string {
	ahead, behind, _ := strings.Cut(text, ".")
	return ahead + behind + "e-" + strconv.Itoa(len(behind))
}

// firstPoint is a decimal with its first digit that is not 0 ahead of the point.
func firstPoint(text string) string {
	ahead, behind, _ := strings.Cut(text, ".")
	digits := strings.TrimLeft(ahead+behind, "0")
	return digits[:1] + "." + digits[1:] + "0e" + strconv.Itoa(len(digits)-1-len(behind))
}

// fewer is a number less one in the last place of its decimal text.
func fewer(num *big.Rat) string {
	scale := new(big.Int).Exp(big.NewInt(10), big.NewInt(int64(places(num))), nil)
	return new(big.Rat).Sub(num, new(big.Rat).SetFrac(big.NewInt(1), scale)).FloatString(places(num))
}

func further(text, digits string) string {
	if strings.Contains(text, ".") {
		return text + digits
	}
	return text + "." + digits
}

// wantMidst asks for a number in the midst between two floats, and for those next to it, in several spellings.
func wantMidst(t *testing.T, midst *big.Rat, low, high float64) {
	t.Helper()
	even := low
	if math.Float64bits(low)&1 == 1 {
		even = high
	}
	text := decimalOf(midst)
	for _, c := range []struct {
		text string
		want float64
	}{
		{text, even}, {further(text, "1"), high}, {further(text, zeros(100)+"1"), high}, {fewer(midst), low},
		{further(fewer(midst), nines(100)), low},
	} {
		wantFlt(t, c.text, c.want)
		wantFlt(t, withoutPoint(c.text), c.want)
		wantFlt(t, firstPoint(c.text), c.want)
	}
	num, power := midst.Num(), "p-"+strconv.Itoa(places(midst))
	wantFlt(t, hexOf(midst), even)
	wantFlt(t, "0x"+num.Text(16)+".0"+power, even)
	wantFlt(t, "0x"+num.Text(16)+".1"+power, high)
	wantFlt(t, "0x"+num.Text(16)+"."+zeros(300)+"1"+power, high)
	one := big.NewInt(1)
	wantFlt(t, "0x"+new(big.Int).Sub(num, one).Text(16)+"."+strings.Repeat("f", 300)+power, low)
	wantFlt(t, "0x"+new(big.Int).Sub(num, one).Text(16)+power, low)
}

func midstOf(low, high *big.Rat) *big.Rat {
	sum := new(big.Rat).Add(low, high)
	return sum.Quo(sum, big.NewRat(2, 1))
}

func TestReadFltMidst(t *testing.T) {
	floats := []float64{
		0, least, 2 * least, 3 * least, 4 * least, below(subnormal), subnormal, normal, normal + least, below(2 * normal), 2 * normal,
		0.1, above(0.1), below(0.5), 0.5, above(0.5), below(1), 1, above(1), 1.5, below(2), 2, above(2), math.Pi, 1e22, 1e23, below(1e23),
		0x1p52, 0x1p53 - 2, 0x1p53 - 1, 0x1p53, 0x1p53 + 2, 0x1p63, below(0x1p64), 0x1p64, 1e300,
		below(0x1p1023), 0x1p1023, above(0x1p1023), below(below(math.MaxFloat64)), below(math.MaxFloat64),
	}
	for exp := -1074; exp < 1024; exp += 23 {
		floats = append(floats, math.Ldexp(1, exp), below(math.Ldexp(1, exp)))
	}
	random := rand.New(rand.NewPCG(4, 4))
	for range 150 {
		floats = append(floats, math.Float64frombits(random.Uint64N(2047<<52-1)))
	}
	for _, low := range floats {
		high := above(low)
		wantMidst(t, midstOf(exact(low), exact(high)), low, high)
	}
}

func TestReadFltAroundLeast(t *testing.T) {
	wantMidst(t, midstOf(exact(0), exact(least)), 0, least)
	for _, c := range []struct {
		text string
		want float64
	}{
		{"4.9e-324", least}, {"5e-324", least}, {"3e-324", least}, {"2.5e-324", least}, {"2.4703282292062328e-324", least},
		{"2.4703282292062327e-324", 0}, {"2e-324", 0}, {"1e-324", 0}, {"1e-325", 0}, {"1e-400", 0}, {"7.4e-324", least}, {"7.5e-324", 2 * least},
		{"0x1p-1074", least}, {"0x1p-1075", 0}, {"0x0.8p-1074", 0}, {"0x0.8000000000000000001p-1074", least}, {"0x0.7ffffffffffffffffffp-1074", 0},
		{"0x1p-1076", 0}, {"0x1.8p-1075", least}, {"0x3p-1075", 2 * least}, {"0x1.8p-1074", 2 * least}, {"0x1.7fffffffffffffffffp-1074", least},
		{"0x1p-1200", 0}, {"0xffffffffffffffffffffp-1200", 0},
	} {
		wantFlt(t, c.text, c.want)
	}
}

func TestReadFltBelowNormal(t *testing.T) {
	for _, c := range []struct {
		text string
		want float64
	}{
		{"2.2250738585072014e-308", normal}, {"2.225073858507201e-308", subnormal}, {"2.2250738585072011e-308", subnormal},
		{"1e-310", 1e-310}, {"1.5e-320", 1.5e-320}, {"1e-323", 2 * least}, {"0x1p-1023", normal / 2}, {"0x1.8p-1073", 3 * least},
		{"0x0.fffffffffffffp-1022", subnormal}, {"0x0.fffffffffffff8p-1022", normal}, {"0x0.fffffffffffff7p-1022", subnormal},
		{"0x1.ffffffffffffffp-1023", normal}, {"0x1.0000000000001p-1022", normal + least}, {"0x1.0000000000001p-1023", normal / 2},
	} {
		wantFlt(t, c.text, c.want)
	}
}

func TestReadFltAroundGreatest(t *testing.T) {
	end := new(big.Rat).SetInt(new(big.Int).Lsh(big.NewInt(1), 1024))
	wantMidst(t, midstOf(exact(math.MaxFloat64), end), math.MaxFloat64, infinity)
	for _, c := range []struct {
		text string
		want float64
	}{
		{decimalOf(exact(math.MaxFloat64)), math.MaxFloat64}, {hexOf(exact(math.MaxFloat64)), math.MaxFloat64},
		{decimalOf(end), infinity}, {hexOf(end), infinity},
		{"1.7976931348623157e308", math.MaxFloat64}, {"1.7976931348623158e308", math.MaxFloat64}, {"1.7976931348623159e308", infinity},
		{"1.8e308", infinity}, {"1e309", infinity}, {"9e308", infinity}, {"1e310", infinity}, {"1e400", infinity}, {"179e306", 1.79e308},
		{"0x1p1024", infinity}, {"0x1.fffffffffffff7p1023", math.MaxFloat64}, {"0x1.fffffffffffff8p1023", infinity},
		{"0x1.fffffffffffff7ffffffffffp1023", math.MaxFloat64}, {"0x0.8p1024", 0x1p1023}, {"0x0.8p1025", infinity}, {"0x1p2000", infinity},
	} {
		wantFlt(t, c.text, c.want)
	}
}

// shapesOf are spellings of ddd e power, for digits that do not begin or end with 0: all tell the same number.
func shapesOf(digits string, power int) []string {
	n := len(digits)
	e := func(by int) string { return "e" + strconv.Itoa(power+by) }
	return []string{
		digits + e(0), digits + ".0" + e(0), digits + zeros(9) + e(-9), zeros(9) + digits + e(0), zeros(500) + digits + e(0),
		"0." + digits + e(n), "0.000" + digits + e(n+3), "0." + zeros(600) + digits + e(n+600), "0." + zeros(300) + digits + zeros(300) + e(n+300),
		digits + zeros(600) + e(-600), zeros(200) + digits + zeros(300) + "." + zeros(200) + e(-300), digits[:1] + "." + digits[1:] + "0" + e(n-1),
	}
}

func TestReadFltPowerMakesUp(t *testing.T) {
	for _, c := range []struct {
		digits string
		power  int
		want   float64
	}{
		{"1", 0, 1}, {"1", -2, 0.01}, {"5", -324, least}, {"17976931348623157", 292, math.MaxFloat64}, {"1", 309, infinity},
		{"9007199254740993", 0, 0x1p53}, {"9007199254740995", 0, 0x1p53 + 4}, {"123456789", -4, 12345.6789}, {"1", -324, 0},
		{"22250738585072014", -324, normal},
	} {
		for _, text := range shapesOf(c.digits, c.power) {
			wantFlt(t, text, c.want)
		}
	}
	wantFlt(t, "1"+zeros(1100)+"e-1100", 1)
	wantFlt(t, "1"+zeros(1190)+"e-1190", 1)
	wantFlt(t, "0."+zeros(1099)+"1e1100", 1)
	wantFlt(t, "0."+zeros(1189)+"1e1190", 1)
	wantFlt(t, "0."+zeros(1189)+"5e+866", least)
	wantFlt(t, "0."+zeros(1189)+"1e866", 0)
	wantFlt(t, "0x1"+zeros(1000)+"p-4000", 1)
	wantFlt(t, "0x0."+zeros(999)+"1p4000", 1)
	wantFlt(t, "0x1"+zeros(1180)+"p-5794", least)
	wantFlt(t, "0x"+zeros(500)+"1.8"+zeros(500)+"p1", 3)
}

func TestReadFltHugePowers(t *testing.T) {
	long := strings.Repeat("7", 500)
	for _, digits := range []string{"1", "9", "12345", "0.5", "0.001", long, "0." + long, zeros(300) + "1", "0." + zeros(300) + "1", "1" + zeros(300)} {
		for _, power := range []string{
			"9999", "99999", "100000", "999999", "1000000", "10000000", "2147483647", "2147483648", "4294967296", "4294967297",
			"9223372036854775807", "9223372036854775808", "18446744073709551615", "18446744073709551616", "18446744073709551617",
			"1" + zeros(100), nines(600), "00000099999", zeros(300) + nines(300),
		} {
			wantFlt(t, digits+"e"+power, infinity)
			wantFlt(t, digits+"e+"+power, infinity)
			wantFlt(t, digits+"e-"+power, 0)
			wantFlt(t, "0x"+digits+"p"+power, infinity)
			wantFlt(t, "0x"+digits+"p+"+power, infinity)
			wantFlt(t, "0x"+digits+"p-"+power, 0)
		}
	}
	for _, n := range []int{1, 19, 20, 64, 1000, 1190} {
		wantFlt(t, "15e"+zeros(n)+"3", 15000)
		wantFlt(t, "15e+"+zeros(n)+"3", 15000)
		wantFlt(t, "15e-"+zeros(n)+"3", 0.015)
		wantFlt(t, "0x1p"+zeros(n)+"3", 8)
		wantFlt(t, "0x1p-"+zeros(n)+"3", 0.125)
		wantFlt(t, "15e"+zeros(n), 15)
	}
}

func TestReadFltOfMaxText(t *testing.T) {
	effs := func(n int) string { return strings.Repeat("f", n) }
	for _, c := range []struct {
		text string
		want float64
	}{
		{zeros(1199) + "7", 7}, {"-" + zeros(1198) + "7", -7}, {nines(1200), infinity}, {"-" + nines(1199), -infinity},
		{"0." + nines(1198), 1}, {"1." + zeros(1198), 1}, {nines(1196) + "e310", infinity}, {nines(1194) + "e-1194", 1},
		{nines(1195) + "e-999", 1e196}, {nines(1194) + "e-1504", 1e-310}, {nines(1194) + "e-1517", 2 * least}, {nines(1194) + "e-1518", 0}, {"0." + zeros(1193) + "1e869", 0}, {"0." + zeros(1192) + "1e+870", 2 * least},
		{"0." + nines(1194) + "e308", 1e308}, {zeros(600) + "." + zeros(599), 0}, {"-" + zeros(600) + "." + zeros(598), minusZero},
		{"1e" + zeros(1197) + "5", 1e5}, {"1e" + nines(1198), infinity}, {"1e-" + nines(1197), 0},
		{"0x" + effs(1198), infinity}, {"-0x" + effs(1197), -infinity}, {"0x0." + effs(1196), 1}, {"0x" + zeros(1197) + "c", 12},
		{"0x1." + zeros(1195) + "1", 1}, {"0x" + effs(1192) + "p-4768", 1}, {"0x" + effs(1192) + "p-3744", infinity},
		{"0x" + effs(1192) + "p-3745", 0x1p1023}, {"0x1p" + zeros(1195) + "4", 16}, {"0x1p" + nines(1196), infinity},
		{"0x1p-" + nines(1195), 0},
		// The last byte of all decides.
		{"9007199254740993." + zeros(1182) + "1", 0x1p53 + 2}, {"9007199254740993." + zeros(1183), 0x1p53},
		{"0x20000000000001." + zeros(1182) + "1", 0x1p53 + 2}, {"0x20000000000001." + zeros(1183), 0x1p53},
	} {
		if len(c.text) != impl.MaxText {
			t.Fatal(len(c.text), c.text)
		}
		wantOneFlt(t, c.text, c.want)
	}
}

// textOf is a random float's text in the grammar, without a sign.
func textOf(random *rand.Rand, hex bool) string {
	bytes, head, mark, span := "0123456789", "", "e", 350
	if hex {
		bytes, head, mark, span = "0123456789abcdef", "0x", "p", 1200
	}
	digits := func() string {
		var out strings.Builder
		for range 1 + random.IntN(1+random.IntN(1<<random.IntN(9))) {
			out.WriteByte(bytes[random.IntN(len(bytes))])
		}
		return out.String()
	}
	text := head + digits()
	if random.IntN(2) == 0 {
		text += "." + digits()
	}
	if random.IntN(3) > 0 {
		text += mark + []string{"", "+", "-"}[random.IntN(3)] + zeros(random.IntN(3)) + strconv.Itoa(random.IntN(span))
	}
	return text
}

// fltWith reads by the library, which asks for a power in each hex.
func fltWith(text string) float64 {
	if strings.HasPrefix(text, "0x") && !strings.Contains(text, "p") {
		text += "p0"
	}
	f, _ := strconv.ParseFloat(text, 64)
	return f
}

func TestReadFltEverywhere(t *testing.T) {
	random := rand.New(rand.NewPCG(5, 5))
	for i := range 20000 {
		text := textOf(random, i%2 == 1)
		wantFlt(t, text, fltWith(text))
		if i%10 > 1 {
			continue
		}
		// A second judge, by fractions.
		num, ok := new(big.Rat).SetString(text)
		if !ok {
			t.Fatal(text)
		}
		want, _ := num.Float64()
		wantFlt(t, text, want)
	}
}

// Few digits over small powers of ten: quotients that come near to a midst, with little left.
func TestReadFltFewDigits(t *testing.T) {
	random := rand.New(rand.NewPCG(8, 8))
	for range 100000 {
		text := strconv.Itoa(random.IntN(1<<32)) + "e-" + strconv.Itoa(random.IntN(14))
		wantOneFlt(t, text, fltWith(text))
	}
}

func TestReadFltGivesFloatsBack(t *testing.T) {
	for i, f := range sampleFloats() {
		if i%3 != 0 {
			continue
		}
		wantOneFlt(t, strings.ToLower(strings.Replace(strconv.FormatFloat(f, 'e', -1, 64), "Inf", "inf", 1)), f)
		if math.IsInf(f, 0) {
			continue
		}
		wantOneFlt(t, strconv.FormatFloat(f, 'f', -1, 64), f)
		wantOneFlt(t, strconv.FormatFloat(f, 'x', -1, 64), f)
		wantOneFlt(t, strconv.FormatFloat(f, 'e', 16, 64), f)
		if i%30 == 0 {
			wantFlt(t, decimalOf(exact(math.Abs(f))), math.Abs(f))
		}
	}
}

// The exact text of the number that Near is given is read as the float that Near gives.
func TestReadFltOfNear(t *testing.T) {
	random := rand.New(rand.NewPCG(6, 6))
	for exp := -1140; exp <= 1040; exp += 4 {
		for _, mant := range []uint64{1, 3, 1<<53 + 1, 1<<54 - 1, 1 << 63, 1<<63 + 1<<10, 1<<63 + 3<<10, 1<<64 - 1<<10, 1<<64 - 1, random.Uint64()} {
			num := new(big.Float).SetUint64(mant)
			rat, _ := num.SetMantExp(num, exp).Rat(nil)
			want := impl.Near(false, int64(mant), exp)
			wantFlt(t, decimalOf(rat), want)
			wantFlt(t, hexOf(rat), want)
			wantFlt(t, "0x"+impl.WriteBits(int64(mant), 16)+"p"+strconv.Itoa(exp), want)
		}
	}
}

func TestReadFltBreaks(t *testing.T) {
	for _, c := range []struct {
		text string
		at   int
	}{
		{"", 0}, {"x", 0}, {".", 0}, {".5", 0}, {"e", 0}, {"e5", 0}, {"p", 0}, {" ", 0}, {" 1", 0}, {"\x00", 0}, {"\xff", 0}, {"é", 0}, {"_1", 0}, {"a", 0},
		{"1 ", 1}, {"1x", 1}, {"1p5", 1}, {"1a", 1}, {"1,5", 1}, {"1_0", 1}, {"1-", 1}, {"1+1", 1}, {"12a", 2}, {"1\x00", 1}, {"1\n", 1},
		{"1.", 2}, {"1.x", 2}, {"1..5", 2}, {"1.e5", 2}, {"1.+5", 2}, {"1.a", 2}, {"1. 5", 2}, {"1.5.", 3}, {"1.5.5", 3}, {"1.5x", 3}, {"1.5 ", 3}, {"1.5a", 3},
		{"1.5p1", 3}, {"1e", 2}, {"1e ", 2}, {"1ex", 2}, {"1ee5", 2}, {"1e.5", 2}, {"1e+", 3}, {"1e-", 3}, {"1e+-5", 3}, {"1e--5", 3}, {"1e+x", 3}, {"1e- 5", 3},
		{"1e5 ", 3}, {"1e5.", 3}, {"1e5e5", 3}, {"1e5x", 3}, {"1e5a", 3}, {"1e5+", 3}, {"1e-5-", 4}, {"1.5e", 4}, {"1.5e5.5", 5}, {"1e5p5", 3}, {"1ea", 2},
		{"0x", 2}, {"0xg", 2}, {"0x.8", 2}, {"0xp1", 2}, {"0x 1", 2}, {"0x-1", 2}, {"0x+1", 2}, {"0xx1", 2}, {"00x1", 2}, {"10x1", 2}, {"0x0x1", 3},
		{"0x1g", 3}, {"0x1 ", 3}, {"0x1.", 4}, {"0x1.p1", 4}, {"0x1.g", 4}, {"0x1..8", 4}, {"0x1.8.", 5}, {"0x1.8g", 5}, {"0x1.8p", 6}, {"0x1e+5", 4}, {"0x1e-5", 4},
		{"0x1p", 4}, {"0x1px", 4}, {"0x1pa", 4}, {"0x1p.5", 4}, {"0x1pp1", 4}, {"0x1p+", 5}, {"0x1p-", 5}, {"0x1p+-1", 5}, {"0x1p+a", 5}, {"0x1p5a", 5}, {"0x1p5.", 5},
		{"0x1p5p5", 5}, {"0x1p5e5", 5}, {"0x1p5 ", 5}, {"0 x1", 1}, {"0b1", 1}, {"0o7", 1},
		{"i", 1}, {"in", 2}, {"ix", 1}, {"inx", 2}, {"in f", 2}, {"infx", 3}, {"infinity", 3}, {"inf ", 3}, {"inf0", 3}, {"inf.", 3}, {"infe5", 3}, {"inff", 3},
		{"n", 1}, {"na", 2}, {"nx", 1}, {"nax", 2}, {"nan0", 3}, {"nan ", 3}, {"nann", 3}, {"nan(1)", 3}, {"nanx", 3}, {"ni", 1}, {"nf", 1}, {"f", 0}, {"an", 0},
		{"1E5", 1}, {"0X1", 1}, {"0xA", 2}, {"0x1A", 3}, {"0x1P1", 3}, {"0x1.A", 4}, {"Inf", 0}, {"iNf", 1}, {"inF", 2}, {"INF", 0}, {"NaN", 0}, {"nAn", 1}, {"naN", 2}, {"A", 0},
		{"1/0", 1}, {"1:", 1}, {"/", 0}, {":", 0}, {"0x`", 2}, {"0x/", 2}, {"0x:", 2}, {"1\xb2", 1}, {"1٣", 1},
	} {
		wantBreak(t, c.text, c.at)
		// A sign moves all places by one; two signs break off at the second.
		for _, sign := range []string{"+", "-"} {
			wantBreak(t, sign+c.text, c.at+1)
			wantBreak(t, sign+"+"+c.text, 1)
			wantBreak(t, sign+"-"+c.text, 1)
		}
	}
}

func TestReadFltBreaksFarOn(t *testing.T) {
	for _, text := range []string{
		zeros(1199), nines(1198), "0." + nines(1000), "1e" + nines(1000), "1e-" + zeros(1000), "0x" + nines(1100), "0x0." + nines(1100), "0x1p" + nines(1000), "0x1p-" + nines(900),
	} {
		for _, tail := range []string{" ", "x", "-", "+", "i", "\x00", "\x80", "E", "G", "/", ":"} {
			wantBreak(t, text+tail, len(text))
		}
	}
	wantBreak(t, nines(1198)+".", 1199)
	wantBreak(t, nines(1198)+"e", 1199)
	wantBreak(t, nines(1197)+"e+", 1199)
	wantBreak(t, "0x"+nines(1190)+"p-", 1194)
}

func TestReadFltTooLong(t *testing.T) {
	// As long as may be, and wrong at the last byte or not whole at the end.
	wantBreak(t, nines(1199)+"x", 1199)
	wantBreak(t, nines(1199)+".", 1200)
	wantBreak(t, nines(1199)+"e", 1200)
	wantBreak(t, "1e"+nines(1197)+"-", 1199)
	wantBreak(t, "0x"+nines(1197)+"p", 1200)
	wantBreak(t, "x"+nines(1199), 0)
	for _, text := range []string{
		zeros(1201), nines(1201), "-" + nines(1200), "0." + zeros(1199), "x" + zeros(1200), zeros(1200) + "x", zeros(1199) + "x0", "inf" + zeros(1198),
		"0x" + zeros(1199), "1e" + zeros(1199), strings.Repeat(" ", 1201), strings.Repeat("-", 1201), zeros(1202), nines(2400), strings.Repeat("x", 100000),
		"1" + strings.Repeat(" ", 1200), zeros(1200) + ".", zeros(1199) + "e5",
	} {
		wantBreak(t, text, impl.MaxText)
	}
}

var floatText = regexp.MustCompile(`^[+-]?(inf|nan|[0-9]+(\.[0-9]+)?(e[+-]?[0-9]+)?|0x[0-9a-f]+(\.[0-9a-f]+)?(p[+-]?[0-9]+)?)$`)

// goesOn says whether a float begins so, by what it could end with.
func goesOn(text string) bool {
	for _, end := range []string{"", "0", "inf", "nf", "f", "nan", "an", "n"} {
		if floatText.MatchString(text + end) {
			return true
		}
	}
	return false
}

// wantBreaksBehind asks for every byte behind a text with which a float begins, and goes on with those with which one goes on.
func wantBreaksBehind(t *testing.T, text string, depth int) {
	if floatText.MatchString(text) {
		want := fltWith(strings.TrimLeft(text, "+-"))
		if text[0] == '-' {
			want = math.Copysign(want, -1)
		}
		wantOneFlt(t, text, want)
	} else {
		wantBreak(t, text, len(text))
	}
	if depth == 0 {
		return
	}
	for b := range 256 {
		longer := text + string([]byte{byte(b)})
		switch {
		case !goesOn(longer):
			wantBreak(t, longer, len(text))
			wantBreak(t, longer+"0", len(text))
		case strings.IndexByte("2345678bcd", byte(b)) < 0:
			wantBreaksBehind(t, longer, depth-1)
		}
	}
}

func TestReadFltEveryByte(t *testing.T) {
	for _, c := range []struct {
		text  string
		depth int
	}{{"", 4}, {"0x", 2}, {"-0x1.", 2}, {"+0x1p", 2}, {"1.", 2}, {"-1.9e", 2}, {"0xf.e", 2}, {"+1e", 2}, {"-in", 2}, {"+na", 2}} {
		wantBreaksBehind(t, c.text, c.depth)
	}
}

func TestReadFltSameAgain(t *testing.T) {
	random := rand.New(rand.NewPCG(7, 7))
	for i := range 2000 {
		text := textOf(random, i%2 == 1)
		first, again := impl.ReadFlt(text), impl.ReadFlt(strings.Clone(text))
		if first != again {
			t.Errorf("ReadFlt(%q) = %+v, then %+v", text, first, again)
		}
		if wrong := text + "?"; impl.ReadFlt(wrong) != impl.ReadFlt(wrong) {
			t.Errorf("ReadFlt(%q) has two answers", wrong)
		}
	}
}
