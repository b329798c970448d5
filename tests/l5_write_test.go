package tests

import (
	"math"
	"math/big"
	"math/rand/v2"
	"strconv"
	"strings"
	"testing"

	"loop.example/grain/impl"
)

type writing struct {
	name  string
	write func(float64) string
}

var (
	exactly  = writing{"Exact", impl.Exact}
	shortest = writing{"Shortest", impl.Shortest}
	hexed    = writing{"HexOf", impl.HexOf}
)

func rounded(n int) writing {
	return writing{"Digits to " + strconv.Itoa(n), func(f float64) string { return impl.Digits(f, n) }}
}

func fixed(places int) writing {
	return writing{"Fixed to " + strconv.Itoa(places), func(f float64) string { return impl.Fixed(f, places) }}
}

// wantText asks for the text of a float without a minus, and for it with one.
func wantText(t *testing.T, by writing, f float64, want string) {
	t.Helper()
	wantOneText(t, by, f, want)
	if want != "" {
		want = "-" + want
	}
	wantOneText(t, by, math.Copysign(f, -1), want)
}

func wantOneText(t *testing.T, by writing, f float64, want string) {
	t.Helper()
	if got := by.write(f); got != want {
		t.Errorf("%s of %x = %q, want %q", by.name, f, got, want)
	}
}

// wantBack asks for a float, bit by bit, from what is written of it.
func wantBack(t *testing.T, by writing, f float64) {
	t.Helper()
	text := by.write(f)
	got := impl.ReadFlt(text)
	if !got.Ok || got.At != 0 || impl.BitsOf(got.Flt) != impl.BitsOf(f) {
		t.Errorf("%s of %x = %q, read as %+v (%x)", by.name, f, text, got, got.Flt)
	}
}

// powersOfTwo are all that are floats.
func powersOfTwo() []float64 {
	var out []float64
	for exp := -1074; exp <= 1023; exp++ {
		out = append(out, math.Ldexp(1, exp))
	}
	return out
}

// powersOfTen are the floats nearest to all that are not nearest to a zero or an infinity.
func powersOfTen() []float64 {
	var out []float64
	for power := -323; power <= 308; power++ {
		out = append(out, fltWith("1e"+strconv.Itoa(power)))
	}
	return out
}

// sizes are numbers above 0: powers of two and of ten and their neighbours, both ends, and some from everywhere.
func sizes() []float64 {
	out := []float64{least, 2 * least, 3 * least, 4 * least, 5 * least, 7 * least, subnormal, normal, normal + least, math.MaxFloat64, below(math.MaxFloat64)}
	for _, f := range append(powersOfTwo(), powersOfTen()...) {
		if f > least {
			out = append(out, below(f))
		}
		out = append(out, f, above(f))
	}
	random := rand.New(rand.NewPCG(9, 9))
	for i := range 400 {
		out = append(out,
			math.Float64frombits(1+random.Uint64N(2047<<52-1)),                             // everywhere
			math.Float64frombits(1+random.Uint64N(1<<52-1)),                                // below 2^-1022
			float64(1+random.Uint64N(1<<53-1))/float64(uint64(1)<<(i%64)),                  // with digits on both sides of the point
			float64(1+random.IntN(100000))/math.Pow(10, float64(i%9)),                      // nearest to few digits
			float64(1+random.IntN(1000))*math.Ldexp(1, random.IntN(40)-20),                 // few bits
			float64(random.Uint64N(1<<53))*float64(1+random.Uint64N(1<<53))*float64(1+i%7)) // whole and great
	}
	return out
}

func allWritings() []writing {
	return []writing{exactly, shortest, hexed, rounded(1), rounded(2), rounded(17), rounded(400), fixed(0), fixed(1), fixed(17), fixed(400)}
}

func TestWriteZeros(t *testing.T) {
	wantText(t, exactly, 0, "0")
	wantText(t, shortest, 0, "0")
	wantText(t, hexed, 0, "0x0p0")
	wantText(t, rounded(1), 0, "0e0")
	wantText(t, rounded(2), 0, "0.0e0")
	wantText(t, rounded(3), 0, "0.00e0")
	wantText(t, rounded(17), 0, "0."+zeros(16)+"e0")
	wantText(t, rounded(400), 0, "0."+zeros(399)+"e0")
	wantText(t, fixed(0), 0, "0")
	wantText(t, fixed(1), 0, "0.0")
	wantText(t, fixed(2), 0, "0.00")
	wantText(t, fixed(400), 0, "0."+zeros(400))
}

func TestWriteInfinities(t *testing.T) {
	for _, by := range allWritings() {
		wantText(t, by, infinity, "inf")
	}
}

func TestWriteNans(t *testing.T) {
	for _, by := range allWritings() {
		wantOneText(t, by, math.NaN(), "nan")
		for _, word := range nanBits {
			wantOneText(t, by, math.Float64frombits(word), "nan")
		}
	}
}

func TestWriteWrongCounts(t *testing.T) {
	floats := []float64{0, infinity, math.NaN(), 1, 0.1, 1e300, 1e-300, least, math.MaxFloat64}
	for _, word := range nanBits {
		floats = append(floats, math.Float64frombits(word))
	}
	for _, f := range floats {
		for _, n := range []int{math.MinInt, math.MinInt + 1, -1 << 32, -401, -400, -2, -1, 401, 402, 1000, 1 << 32, 1<<32 + 1, math.MaxInt - 1, math.MaxInt} {
			wantText(t, rounded(n), f, "")
			wantText(t, fixed(n), f, "")
		}
		wantText(t, rounded(0), f, "")
		for _, by := range []writing{rounded(1), rounded(400), fixed(0), fixed(400)} {
			if by.write(f) == "" {
				t.Errorf("%s of %x is nothing", by.name, f)
			}
		}
	}
	if impl.MaxPlaces != 400 {
		t.Error("MaxPlaces", impl.MaxPlaces)
	}
}

func TestExactNamed(t *testing.T) {
	for _, c := range []struct {
		f    float64
		want string
	}{
		{1, "1"}, {2, "2"}, {9, "9"}, {10, "10"}, {12, "12"}, {100, "100"}, {105, "105"}, {1000000, "1000000"}, {0x1p53 - 1, "9007199254740991"}, {0x1p53, "9007199254740992"},
		{0x1p63, "9223372036854775808"}, {0x1p64, "18446744073709551616"}, {0x1p64 + 0x1p12, "18446744073709555712"}, {below(0x1p64), "18446744073709549568"},
		{1e22, "10000000000000000000000"}, {1e23, "99999999999999991611392"}, {above(1e23), "100000000000000008388608"}, {0x1p100, "1267650600228229401496703205376"},
		{1e30, "1000000000000000019884624838656"}, {1e100, "10000000000000000159028911097599180468360808563945281389781327557747838772170381060813469985856815104"},
		{0.5, "0.5"}, {0.25, "0.25"}, {0.75, "0.75"}, {0.125, "0.125"}, {0.0625, "0.0625"}, {0.0009765625, "0.0009765625"}, {0x1p-20, "0.00000095367431640625"},
		{0.1, "0.1000000000000000055511151231257827021181583404541015625"}, {0.3, "0.299999999999999988897769753748434595763683319091796875"},
		{0.000001, "0.000000999999999999999954748111825886258685613938723690807819366455078125"},
		{1.5, "1.5"}, {10.5, "10.5"}, {100.0625, "100.0625"}, {1024.03125, "1024.03125"}, {123456.75, "123456.75"}, {1.1, "1.100000000000000088817841970012523233890533447265625"},
		{4503599627370495.5, "4503599627370495.5"}, {1125899906842624.25, "1125899906842624.25"}, {9.5, "9.5"}, {99.5, "99.5"}, {20.5, "20.5"},
		{math.MaxFloat64, new(big.Int).Lsh(big.NewInt(1<<53-1), 971).String()}, {0x1p1023, new(big.Int).Lsh(big.NewInt(1), 1023).String()},
		{least, "0." + zeros(323) + new(big.Int).Exp(big.NewInt(5), big.NewInt(1074), nil).String()},
	} {
		wantText(t, exactly, c.f, c.want)
	}
}

func TestExactLongest(t *testing.T) {
	for _, f := range []float64{least, 3 * least, subnormal, normal + least, below(2 * normal)} {
		for by, sign := range map[float64]string{1: "", -1: "-"} {
			text := impl.Exact(by * f)
			if len(text) != len(sign)+1076 || !strings.HasPrefix(text, sign+"0.") || !strings.HasSuffix(text, "5") {
				t.Errorf("Exact(%x) has %d bytes: %s", by*f, len(text), text)
			}
			wantBack(t, exactly, by*f)
		}
	}
	// As many digits as a number may have from the first one on.
	if text := strings.TrimLeft(impl.Exact(below(2*normal)), "0."); len(text) != 767 {
		t.Error(len(text), text)
	}
}

func TestExactEverywhere(t *testing.T) {
	for i, f := range sizes() {
		if i%2 == 0 {
			wantText(t, exactly, f, decimalOf(exact(f)))
		}
		wantOneText(t, exactly, -f, "-"+exactLibrary(f))
	}
}

// exactLibrary writes by the library, with more places than there are.
func exactLibrary(f float64) string {
	text := strconv.FormatFloat(f, 'f', 1080, 64)
	return strings.TrimRight(strings.TrimRight(text, "0"), ".")
}

func TestHexOfNamed(t *testing.T) {
	for _, c := range []struct {
		f    float64
		want string
	}{
		{1, "0x1p0"}, {2, "0x1p1"}, {3, "0x3p0"}, {12, "0x3p2"}, {10, "0x5p1"}, {255, "0xffp0"}, {256, "0x1p8"}, {160, "0x5p5"}, {0xabcdef, "0xabcdefp0"}, {0x1p53 - 1, "0x1fffffffffffffp0"},
		{0.5, "0x1p-1"}, {1.5, "0x3p-1"}, {0.75, "0x3p-2"}, {0.1, "0xccccccccccccdp-55"}, {1e22, "0x878678326eac9p22"}, {1e23, "0xa968163f0a57bp25"}, {math.Pi, "0x3243f6a8885a3p-48"},
		{0x1p10, "0x1p10"}, {0x1p-10, "0x1p-10"}, {0x1p1023, "0x1p1023"}, {math.MaxFloat64, "0x1fffffffffffffp971"}, {below(math.MaxFloat64), "0xfffffffffffffp972"},
		{least, "0x1p-1074"}, {2 * least, "0x1p-1073"}, {3 * least, "0x3p-1074"}, {subnormal, "0xfffffffffffffp-1074"}, {normal, "0x1p-1022"}, {normal + least, "0x10000000000001p-1074"},
	} {
		wantText(t, hexed, c.f, c.want)
	}
}

func TestHexOfEverywhere(t *testing.T) {
	for _, f := range sizes() {
		parts := partsWith(f)
		wantText(t, hexed, f, "0x"+strconv.FormatInt(parts.Mant, 16)+"p"+strconv.Itoa(parts.Exp))
	}
}

func TestWrittenIsReadBack(t *testing.T) {
	floats := append(sampleFloats(), 0, minusZero, infinity, -infinity, math.NaN(), least, -least, math.MaxFloat64, -math.MaxFloat64)
	for _, word := range nanBits {
		floats = append(floats, impl.FromBits(int64(word)))
	}
	for i, f := range floats {
		wantBack(t, hexed, f)
		if i%3 == 0 || i > len(floats)-20 {
			wantBack(t, shortest, f)
		}
		if i%11 == 0 || i > len(floats)-20 {
			wantBack(t, exactly, f)
		}
	}
}

func TestSizesAreReadBack(t *testing.T) {
	for i, f := range sizes() {
		for _, by := range []writing{shortest, hexed} {
			wantBack(t, by, f)
			wantBack(t, by, -f)
		}
		switch i % 4 {
		case 0:
			wantBack(t, exactly, f)
		case 2:
			wantBack(t, exactly, -f)
		}
	}
}

func TestExactOfNear(t *testing.T) {
	random := rand.New(rand.NewPCG(10, 10))
	for exp := -1150; exp <= 1040; exp += 6 {
		for _, mant := range []int64{0, 1, 1<<54 - 1, math.MinInt64 + 1<<10, -1, int64(random.Uint64())} {
			wantBack(t, exactly, impl.Near(exp%4 == 0, mant, exp))
		}
	}
}

func TestShortestNamed(t *testing.T) {
	for _, c := range []struct {
		f    float64
		want string
	}{
		{1, "1"}, {9, "9"}, {10, "10"}, {12, "12"}, {100, "100"}, {123, "123"}, {0.1, "0.1"}, {0.2, "0.2"}, {0.3, "0.3"}, {0.1 + above(0.2), "0.30000000000000004"}, {1.5, "1.5"}, {12.25, "12.25"},
		{0.001, "0.001"}, {0.0123, "0.0123"}, {1.0 / 3, "0.3333333333333333"}, {2.0 / 3, "0.6666666666666666"}, {math.Pi, "3.141592653589793"}, {math.E, "2.718281828459045"}, {100.5, "100.5"},
		{above(1), "1.0000000000000002"}, {below(1), "0.9999999999999999"}, {0x1p53, "9007199254740992"}, {0x1p53 + 2, "9007199254740994"}, {0x1p54, "18014398509481984"},
		{0x1p63, "9223372036854776000"}, {0x1p64, "18446744073709552000"}, {123456789012, "123456789012"}, {1234567890123456789, "1234567890123456800"},
		// the ends
		{least, "5e-324"}, {2 * least, "1e-323"}, {3 * least, "1.5e-323"}, {4 * least, "2e-323"}, {5 * least, "2.5e-323"}, {6 * least, "3e-323"}, {10 * least, "5e-323"},
		{subnormal, "2.225073858507201e-308"}, {normal, "2.2250738585072014e-308"}, {normal + least, "2.225073858507202e-308"},
		{math.MaxFloat64, "1.7976931348623157e308"}, {below(math.MaxFloat64), "1.7976931348623155e308"}, {0x1p1023, "8.98846567431158e307"},
		// with and without an exponent
		{1e-7, "1e-7"}, {1.5e-7, "1.5e-7"}, {9.5e-7, "9.5e-7"}, {9.999999999999997e-7, "9.999999999999997e-7"}, {below(0.000001), "9.999999999999997e-7"}, {5e-7, "5e-7"}, {1.234567e-7, "1.234567e-7"},
		{1e-6, "0.000001"}, {1.5e-6, "0.0000015"}, {9e-6, "0.000009"}, {above(0.000001), "0.0000010000000000000002"}, {1.234567e-6, "0.000001234567"}, {1e-5, "0.00001"}, {0x1p-19, "0.0000019073486328125"},
		{0x1p-20, "9.5367431640625e-7"}, {1e-8, "1e-8"}, {1e-10, "1e-10"}, {1.5e-10, "1.5e-10"}, {1e-100, "1e-100"}, {1.25e-100, "1.25e-100"},
		{1e19, "10000000000000000000"}, {1e20, "100000000000000000000"}, {1.5e20, "150000000000000000000"}, {9e20, "900000000000000000000"}, {123456789012345678901, "123456789012345680000"},
		{below(1e21), "999999999999999900000"}, {1e21, "1e21"}, {above(1e21), "1.0000000000000001e21"}, {1.5e21, "1.5e21"}, {9e21, "9e21"}, {1e22, "1e22"}, {1.25e22, "1.25e22"}, {1e100, "1e100"}, {1.5e300, "1.5e300"},
	} {
		wantText(t, shortest, c.f, c.want)
	}
}

// An edge that is itself a short decimal is read as the float whose lowest bit is 0, and only this one is written so.
func TestShortestShortEdges(t *testing.T) {
	for _, c := range []struct {
		even, odd   float64
		edge, other string
	}{
		{1e23, above(1e23), "1e23", "1.0000000000000001e23"},
		{7e22, below(7e22), "7e22", "6.9999999999999996e22"},
		{1.9e22, below(1.9e22), "1.9e22", "1.8999999999999998e22"},
	} {
		if math.Float64bits(c.even)&1 != 0 || exact(c.even).Cmp(exact(fltWith(c.edge))) != 0 {
			t.Fatal(c.edge)
		}
		wantText(t, shortest, c.even, c.edge)
		wantText(t, shortest, c.odd, c.other)
	}
	// Odd times a power of five is in the midst between two floats when it has one bit more than they have.
	seen := 0
	for power := 17; power <= 23; power++ {
		five := new(big.Int).Exp(big.NewInt(5), big.NewInt(int64(power)), nil)
		for digits := int64(1); digits < 20000; digits += 2 {
			size := new(big.Int).Mul(five, big.NewInt(digits))
			if size.BitLen() != 54 || digits%5 == 0 || digits > 2000 && digits%22 != 1 {
				continue
			}
			seen++
			wantShortEdge(t, size.Int64(), power, shortFormWith(strconv.FormatInt(digits, 10), power))
		}
	}
	if seen < 500 {
		t.Error("edges", seen)
	}
}

// wantShortEdge asks for the floats on both sides of a midst: size, odd and of 54 bits, times 2 to the power.
func wantShortEdge(t *testing.T, size int64, power int, edge string) {
	t.Helper()
	even, odd := math.Ldexp(float64(size/2), power+1), math.Ldexp(float64(size/2+1), power+1)
	if size/2%2 == 1 {
		even, odd = odd, even
	}
	wantText(t, shortest, even, edge)
	wantText(t, shortest, odd, shortestWith(odd))
	wantBack(t, shortest, odd)
}

// digitCount is how many digits there are from the first to the last that is not 0.
func digitCount(text string) int {
	digits, _, _ := strings.Cut(strings.TrimPrefix(text, "-"), "e")
	return len(strings.Trim(strings.ReplaceAll(digits, ".", ""), "0"))
}

// Of two as near, both read as the float, the one with the even last digit.
func TestShortestOfTwoAsNear(t *testing.T) {
	for _, c := range []struct {
		f    float64
		want string
	}{
		{1125899906842624.25, "1125899906842624.2"}, {1125899906842624.75, "1125899906842624.8"}, {1125899906842625.25, "1125899906842625.2"}, {2251799813685247.75, "2251799813685247.8"},
		{2251799813685247.25, "2251799813685247.2"}, {562949953421312.25, "562949953421312.2"}, {562949953421312.75, "562949953421312.8"}, {1125899906842623.25, "1125899906842623.2"},
	} {
		wantText(t, shortest, c.f, c.want)
	}
	random := rand.New(rand.NewPCG(11, 11))
	for range 500 {
		whole := 1<<49 + random.Uint64N(1<<51-1<<49)
		wantText(t, shortest, float64(whole)+0.25, strconv.FormatUint(whole, 10)+".2")
		wantText(t, shortest, float64(whole)+0.75, strconv.FormatUint(whole, 10)+".8")
	}
}

// unit is such that all floats and all midsts between them are whole multiples of 2 to the -unit.
const unit = 1076

func unitsOf(f float64) *big.Int {
	if math.IsInf(f, 0) {
		return new(big.Int).Lsh(big.NewInt(1), 1024+unit)
	}
	parts := partsWith(f)
	return new(big.Int).Lsh(big.NewInt(parts.Mant), uint(parts.Exp+unit))
}

func tenTo(power int) *big.Int {
	return new(big.Int).Exp(big.NewInt(10), big.NewInt(int64(power)), nil)
}

// cutTo is how often 10 to the power goes into a size of units, what is left, and of how many.
func cutTo(size *big.Int, power int) (count, rest, of *big.Int) {
	of = new(big.Int).Lsh(big.NewInt(1), unit)
	if power < 0 {
		size = new(big.Int).Mul(size, tenTo(-power))
	} else {
		of.Mul(of, tenTo(power))
	}
	count, rest = new(big.Int).DivMod(size, of, new(big.Int))
	return count, rest, of
}

// roundWith is a size as a multiple of 10 to the power, the nearest, of two as near the even one.
func roundWith(f float64, power int) *big.Int {
	count, rest, of := cutTo(unitsOf(f), power)
	order := rest.Lsh(rest, 1).Cmp(of)
	if order > 0 || order == 0 && count.Bit(0) == 1 {
		count.Add(count, big.NewInt(1))
	}
	return count
}

// powerWith is x: the power of ten of the first digit of a number itself.
func powerWith(f float64) int {
	_, power, _ := strings.Cut(strconv.FormatFloat(f, 'e', 770, 64), "e")
	x, _ := strconv.Atoi(power)
	return x
}

// pointed is a whole number over 10 to the places.
func pointed(digits string, places int) string {
	digits = zeros(places+1-len(digits)+max(0, len(digits)-places-1)) + digits
	if places == 0 {
		return digits
	}
	return digits[:len(digits)-places] + "." + digits[len(digits)-places:]
}

// spread is digits with a point behind the first, and x.
func spread(digits string, x int) string {
	if len(digits) > 1 {
		digits = digits[:1] + "." + digits[1:]
	}
	return digits + "e" + strconv.Itoa(x)
}

// fits says whether count times 10 to the power is read as a number above 0, by the midsts on both sides of it.
func fits(f float64, count *big.Int, power int) bool {
	edge := func(other float64) int {
		sum := new(big.Int).Add(unitsOf(f), unitsOf(other))
		whole, rest, _ := cutTo(sum.Rsh(sum, 1), power)
		if order := count.Cmp(whole); order != 0 || rest.Sign() == 0 {
			return order
		}
		return -1
	}
	low, high := edge(below(f)), edge(above(f))
	if math.Float64bits(f)&1 == 0 {
		return low >= 0 && high <= 0
	}
	return low > 0 && high < 0
}

// shortestWith goes up from one digit, and asks for the two numbers of so many digits between which a number above 0 lies.
func shortestWith(f float64) string {
	x := powerWith(f)
	for n := 1; ; n++ {
		power := x + 1 - n
		low, _, _ := cutTo(unitsOf(f), power)
		high := new(big.Int).Add(low, big.NewInt(1))
		near, far := low, high
		if roundWith(f, power).Cmp(low) != 0 {
			near, far = high, low
		}
		switch {
		case fits(f, near, power):
			return shortFormWith(near.String(), power)
		case fits(f, far, power):
			return shortFormWith(far.String(), power)
		}
	}
}

func shortFormWith(digits string, power int) string {
	kept := strings.TrimRight(digits, "0")
	x := len(digits) - 1 + power
	behind := len(kept) - 1 - x
	switch {
	case x < -6 || x > 20:
		return spread(kept, x)
	case behind <= 0:
		return kept + zeros(-behind)
	}
	return pointed(kept, behind)
}

// shortestLibrary writes by the library, in the document's form.
func shortestLibrary(f float64) string {
	digits, power, _ := strings.Cut(strconv.FormatFloat(f, 'e', -1, 64), "e")
	x, _ := strconv.Atoi(power)
	if x >= -6 && x <= 20 {
		return strconv.FormatFloat(f, 'f', -1, 64)
	}
	return digits + "e" + strconv.Itoa(x)
}

func TestShortestEverywhere(t *testing.T) {
	for i, f := range sizes() {
		want := shortestLibrary(f)
		wantText(t, shortest, f, want)
		// A second judge, by whole numbers.
		if i%3 == 0 {
			wantText(t, shortest, f, shortestWith(f))
		}
	}
}

// Less lies below a power of two than above it, so that the nearer one of two may be too far below.
func TestShortestOfPowersOfTwo(t *testing.T) {
	uneven := 0
	for _, f := range powersOfTwo() {
		want := shortestWith(f)
		wantText(t, shortest, f, want)
		n := digitCount(want)
		if near := impl.Digits(f, n); !sameFloat(impl.ReadFlt(near).Flt, f) {
			uneven++
		}
	}
	if uneven == 0 {
		t.Error("no power of two is written by the digits that are not as near")
	}
}

// No number of fewer digits is read as the float: neither of the two between which it lies.
func TestShortestNoFewerDigits(t *testing.T) {
	for i, f := range append(sizes(), sampleFloats()...) {
		f = math.Abs(f)
		if f == 0 || math.IsInf(f, 0) || i%2 == 1 {
			continue
		}
		power := powerWith(f)
		for n := digitCount(impl.Shortest(f)) - 1; n > 0; n -= 7 {
			count, _, _ := cutTo(unitsOf(f), power+1-n)
			for range 2 {
				text := count.String() + "e" + strconv.Itoa(power+1-n)
				if got := impl.ReadFlt(text); sameFloat(got.Flt, f) {
					t.Errorf("Shortest(%x) = %s, but %s is it too", f, impl.Shortest(f), text)
				}
				count.Add(count, big.NewInt(1))
			}
		}
	}
}

func TestDigitsNamed(t *testing.T) {
	for _, c := range []struct {
		f    float64
		n    int
		want string
	}{
		{1, 1, "1e0"}, {1, 2, "1.0e0"}, {1, 17, "1." + zeros(16) + "e0"}, {1, 400, "1." + zeros(399) + "e0"}, {12345, 1, "1e4"}, {12345, 2, "1.2e4"}, {12345, 3, "1.23e4"}, {12345, 5, "1.2345e4"}, {12345, 6, "1.23450e4"},
		{0.00012, 4, "1.200e-4"}, {0.1, 1, "1e-1"}, {0.1, 17, "1.0000000000000001e-1"}, {0.1, 20, "1.0000000000000000555e-1"}, {0.1, 55, "1.000000000000000055511151231257827021181583404541015625e-1"},
		{0.1, 57, "1.00000000000000005551115123125782702118158340454101562500e-1"}, {0.3, 2, "3.0e-1"}, {0.3, 17, "2.9999999999999999e-1"}, {0.3, 16, "3.000000000000000e-1"}, {10, 1, "1e1"}, {10, 3, "1.00e1"}, {105, 2, "1.0e2"},
		// just in the midst
		{0.5, 1, "5e-1"}, {1.5, 1, "2e0"}, {2.5, 1, "2e0"}, {3.5, 1, "4e0"}, {4.5, 1, "4e0"}, {8.5, 1, "8e0"}, {9.5, 1, "1e1"}, {25, 1, "2e1"}, {35, 1, "4e1"}, {0.25, 1, "2e-1"}, {0.75, 1, "8e-1"}, {0.125, 2, "1.2e-1"}, {0.375, 2, "3.8e-1"},
		{1.25, 2, "1.2e0"}, {1.75, 2, "1.8e0"}, {1.05e20, 2, "1.0e20"}, {1.15e20, 2, "1.2e20"}, {1.0625, 4, "1.062e0"}, {1.1875, 4, "1.188e0"}, {10.5, 2, "1.0e1"}, {11.5, 2, "1.2e1"}, {20.5, 2, "2.0e1"}, {1000000.5, 7, "1.000000e6"}, {1000001.5, 7, "1.000002e6"},
		{9007199254740993 * 2, 16, "1.801439850948198e16"}, {4503599627370497.5, 16, "4.503599627370498e15"}, {4503599627370496.5, 16, "4.503599627370496e15"}, {0.0009765625, 6, "9.76562e-4"}, {0.0029296875, 7, "2.929688e-3"},
		// a little above and below it
		{above(2.5), 1, "3e0"}, {below(2.5), 1, "2e0"}, {above(3.5), 1, "4e0"}, {below(3.5), 1, "3e0"}, {above(0.125), 2, "1.3e-1"}, {below(0.125), 2, "1.2e-1"}, {above(0.375), 2, "3.8e-1"}, {below(0.375), 2, "3.7e-1"}, {above(25), 1, "3e1"}, {below(35), 1, "3e1"},
		{above(9.5), 1, "1e1"}, {below(9.5), 1, "9e0"}, {2.51, 1, "3e0"}, {2.49, 1, "2e0"}, {2501, 1, "3e3"}, {2499, 1, "2e3"}, {12.45, 3, "1.24e1"}, {1.005, 3, "1.00e0"}, {1.015, 3, "1.01e0"}, {1.025, 3, "1.02e0"},
		// all nines become longer
		{9, 1, "9e0"}, {9.6, 1, "1e1"}, {9.96, 2, "1.0e1"}, {9.94, 2, "9.9e0"}, {99, 1, "1e2"}, {99.5, 2, "1.0e2"}, {98.5, 2, "9.8e1"}, {999999, 3, "1.00e6"}, {999999, 6, "9.99999e5"}, {0.0996, 2, "1.0e-1"}, {0.999, 1, "1e0"}, {0.999, 2, "1.0e0"}, {0.00999999, 3, "1.00e-2"},
		{0x1p53 - 1, 1, "9e15"}, {9999999999999998, 15, "1.00000000000000e16"}, {9999999999999998, 16, "9.999999999999998e15"}, {below(1), 1, "1e0"}, {below(1), 15, "1.00000000000000e0"}, {below(1), 16, "9.999999999999999e-1"}, {1e23, 16, "9.999999999999999e22"}, {1e23, 15, "1.00000000000000e23"},
		{1e-6, 17, "9.9999999999999995e-7"}, {1e-6, 16, "1.000000000000000e-6"}, {1e-7, 1, "1e-7"}, {1994, 3, "1.99e3"}, {1995, 3, "2.00e3"}, {1985, 3, "1.98e3"}, {19951, 3, "2.00e4"},
		// the ends
		{least, 1, "5e-324"}, {least, 2, "4.9e-324"}, {least, 17, "4.9406564584124654e-324"}, {2 * least, 1, "1e-323"}, {2 * least, 2, "9.9e-324"}, {normal, 17, "2.2250738585072014e-308"}, {subnormal, 17, "2.2250738585072009e-308"},
		{math.MaxFloat64, 1, "2e308"}, {math.MaxFloat64, 2, "1.8e308"}, {math.MaxFloat64, 17, "1.7976931348623157e308"}, {math.MaxFloat64, 400, spread(new(big.Int).Lsh(big.NewInt(1<<53-1), 971).String()+zeros(91), 308)}, {0x1p1023, 1, "9e307"},
	} {
		wantText(t, rounded(c.n), c.f, c.want)
	}
}

func digitsWith(f float64, n int) string {
	x := powerWith(f)
	digits := roundWith(f, x+1-n).String()
	// Rounded up to one digit more, a one and zeros.
	return spread(digits[:n], x+len(digits)-n)
}

func TestDigitsEverywhere(t *testing.T) {
	counts := []int{1, 2, 3, 5, 9, 15, 16, 17, 18, 19, 20, 50, 100, 309, 399, 400}
	for i, f := range sizes() {
		n := counts[i%len(counts)]
		wantText(t, rounded(n), f, digitsWith(f, n))
		for _, n := range []int{1, 17, 1 + i%25} {
			want, power, _ := strings.Cut(strconv.FormatFloat(f, 'e', n-1, 64), "e")
			x, _ := strconv.Atoi(power)
			wantOneText(t, rounded(n), f, want+"e"+strconv.Itoa(x))
		}
	}
}

// Numbers of one digit more than asked for, the last one a 5, and what is next to them.
func TestDigitsMidst(t *testing.T) {
	random := rand.New(rand.NewPCG(12, 12))
	for n := 1; n <= 14; n++ {
		for range 60 {
			first := int64(math.Pow10(n - 1))
			kept := first + random.Int64N(9*first)
			midst, even := float64(kept*10+5), kept+kept%2
			for _, c := range []struct {
				f    float64
				want int64
			}{{midst, even}, {above(midst), kept + 1}, {below(midst), kept}} {
				digits := strconv.FormatInt(c.want, 10)
				wantText(t, rounded(n), c.f, spread(digits[:n], len(digits)))
			}
			// Behind the point too: eighths have their midst at the third place.
			behind := float64(kept) + float64(1+2*(kept%4))/8
			wantText(t, rounded(n+2), behind, digitsWith(behind, n+2))
			wantText(t, fixed(2), behind, fixedWith(behind, 2))
		}
	}
}

func TestFixedNamed(t *testing.T) {
	for _, c := range []struct {
		f      float64
		places int
		want   string
	}{
		{1, 0, "1"}, {1, 1, "1.0"}, {1, 2, "1.00"}, {1, 400, "1." + zeros(400)}, {12.25, 0, "12"}, {12.25, 1, "12.2"}, {12.25, 2, "12.25"}, {12.25, 3, "12.250"}, {123456, 2, "123456.00"}, {0.1, 1, "0.1"}, {0.1, 20, "0.10000000000000000555"},
		{0.1, 55, "0.1000000000000000055511151231257827021181583404541015625"}, {0.1, 54, "0.100000000000000005551115123125782702118158340454101562"}, {0.1, 57, "0.100000000000000005551115123125782702118158340454101562500"}, {0.3, 17, "0.29999999999999999"}, {0.3, 16, "0.3000000000000000"},
		{100, 0, "100"}, {1e21, 0, "1" + zeros(21)}, {1e21, 1, "1" + zeros(21) + ".0"}, {1e22, 3, "1" + zeros(22) + ".000"}, {1e23, 1, "99999999999999991611392.0"}, {0x1p64, 2, "18446744073709551616.00"}, {0.05, 3, "0.050"}, {0.001, 3, "0.001"}, {0.00012, 4, "0.0001"},
		// just in the midst
		{0.5, 0, "0"}, {1.5, 0, "2"}, {2.5, 0, "2"}, {3.5, 0, "4"}, {4.5, 0, "4"}, {8.5, 0, "8"}, {9.5, 0, "10"}, {10.5, 0, "10"}, {11.5, 0, "12"}, {98.5, 0, "98"}, {99.5, 0, "100"}, {100.5, 0, "100"}, {4503599627370495.5, 0, "4503599627370496"}, {4503599627370494.5, 0, "4503599627370494"},
		{0.25, 1, "0.2"}, {0.75, 1, "0.8"}, {0.125, 2, "0.12"}, {0.375, 2, "0.38"}, {0.625, 2, "0.62"}, {0.875, 2, "0.88"}, {0.0625, 3, "0.062"}, {0.1875, 3, "0.188"}, {0.03125, 4, "0.0312"}, {0.09375, 4, "0.0938"}, {1.25, 1, "1.2"}, {1.75, 1, "1.8"}, {9.75, 1, "9.8"}, {1.0625, 3, "1.062"}, {0x1p-20, 19, "0.0000009536743164062"},
		// a little above and below it
		{above(0.5), 0, "1"}, {below(0.5), 0, "0"}, {above(1.5), 0, "2"}, {below(1.5), 0, "1"}, {above(2.5), 0, "3"}, {below(2.5), 0, "2"}, {above(0.125), 2, "0.13"}, {below(0.125), 2, "0.12"}, {above(0.375), 2, "0.38"}, {below(0.375), 2, "0.37"}, {1.005, 2, "1.00"}, {1.015, 2, "1.01"}, {2.675, 2, "2.67"}, {0.15, 1, "0.1"}, {0.35, 1, "0.3"}, {0.45, 1, "0.5"},
		// what becomes longer
		{9.5, 0, "10"}, {9.6, 0, "10"}, {9.96, 1, "10.0"}, {9.94, 1, "9.9"}, {9.995, 2, "9.99"}, {9.996, 2, "10.00"}, {99.996, 2, "100.00"}, {99.999, 2, "100.00"}, {999.9999, 3, "1000.000"}, {999999.5, 0, "1000000"}, {0.96, 1, "1.0"}, {0.9, 0, "1"}, {0.99, 1, "1.0"}, {0.099, 2, "0.10"}, {0.0096, 3, "0.010"}, {below(1), 0, "1"}, {below(1), 15, "1." + zeros(15)}, {below(10), 2, "10.00"}, {0.996, 2, "1.00"}, {0.06, 1, "0.1"}, {0.006, 2, "0.01"}, {0.6, 0, "1"},
		// what is rounded to zero
		{0.001, 2, "0.00"}, {0.004, 2, "0.00"}, {0.4, 0, "0"}, {0.04, 1, "0.0"}, {0.049, 1, "0.0"}, {0.03125, 1, "0.0"}, {0.01, 0, "0"}, {0.09, 0, "0"}, {0.09, 1, "0.1"}, {0.009, 1, "0.0"}, {1e-10, 5, "0.00000"}, {1e-300, 0, "0"}, {1e-300, 10, "0." + zeros(10)}, {0x1p-20, 6, "0.000001"}, {0x1p-21, 6, "0.000000"}, {0x1p-20, 5, "0.00000"}, {0.0005, 3, "0.001"}, {0x1p-11, 3, "0.000"},
		{normal, 0, "0"}, {normal, 307, "0." + zeros(307)}, {normal, 308, "0." + zeros(307) + "2"}, {least, 0, "0"}, {least, 1, "0.0"}, {least, 322, "0." + zeros(322)}, {least, 323, "0." + zeros(323)}, {least, 324, "0." + zeros(323) + "5"}, {least, 325, "0." + zeros(323) + "49"}, {2 * least, 323, "0." + zeros(322) + "1"},
		// the greatest
		{math.MaxFloat64, 0, new(big.Int).Lsh(big.NewInt(1<<53-1), 971).String()}, {math.MaxFloat64, 400, new(big.Int).Lsh(big.NewInt(1<<53-1), 971).String() + "." + zeros(400)},
	} {
		wantText(t, fixed(c.places), c.f, c.want)
	}
}

// No float above 0 is so small that nothing of it stands in 400 places, but with fewer places many are.
func TestFixedOfSmallNumbers(t *testing.T) {
	wantText(t, fixed(400), least, "0."+zeros(323)+"49406564584124654417656879286822137236505980261432476442558568250067550727021")
	for _, f := range []float64{least, 2 * least, 3 * least, subnormal, normal, 1e-300, 1e-200} {
		for _, places := range []int{0, 1, 2, 50, 100, 199} {
			want := "0"
			if places > 0 {
				want += "." + zeros(places)
			}
			wantText(t, fixed(places), f, want)
		}
		for _, places := range []int{200, 299, 300, 301, 307, 308, 309, 322, 323, 324, 325, 399, 400} {
			wantText(t, fixed(places), f, fixedWith(f, places))
		}
	}
}

func fixedWith(f float64, places int) string {
	return pointed(roundWith(f, -places).String(), places)
}

func TestFixedEverywhere(t *testing.T) {
	counts := []int{0, 1, 2, 3, 6, 10, 15, 17, 20, 50, 100, 307, 308, 323, 324, 399, 400}
	for i, f := range sizes() {
		places := counts[i%len(counts)]
		wantText(t, fixed(places), f, fixedWith(f, places))
		for _, places := range []int{0, 1 + i%25, max(0, min(-powerWith(f), 400)), max(0, min(-powerWith(f)-1, 400))} {
			wantOneText(t, fixed(places), f, strconv.FormatFloat(f, 'f', places, 64))
		}
	}
}

// Rounding is once: of the exact number, not of fewer digits of it.
func TestRoundedOnce(t *testing.T) {
	for _, c := range []struct {
		f    float64
		n    int
		want string
	}{
		{0.15, 1, "1e-1"}, {0.35, 1, "3e-1"}, {0.45, 1, "5e-1"}, {2.675, 3, "2.67e0"}, {1.115, 3, "1.11e0"}, {1.145, 3, "1.15e0"}, {1.0000000000000002, 16, "1.000000000000000e0"}, {below(0.5), 1, "5e-1"}, {2.4999999999999996, 1, "2e0"},
		{8.41e21, 1, "8e21"}, {1e23, 17, "9.9999999999999992e22"}, {5e-324, 3, "4.94e-324"}, {0.000035, 1, "3e-5"}, {0.000045, 1, "5e-5"},
	} {
		wantText(t, rounded(c.n), c.f, c.want)
		wantText(t, rounded(c.n), c.f, digitsWith(c.f, c.n))
	}
}

func TestWriteSameAgain(t *testing.T) {
	for i, f := range sizes() {
		if i%17 != 0 {
			continue
		}
		for _, by := range allWritings() {
			if first, again := by.write(f), by.write(f); first != again {
				t.Errorf("%s of %x = %s, then %s", by.name, f, first, again)
			}
		}
	}
}
