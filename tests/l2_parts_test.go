package tests

import (
	"math"
	"math/big"
	"testing"

	"loop.example/grain/impl"
)

const (
	least      = 0x1p-1074
	normal     = 0x1p-1022
	subnormal  = 0x0.fffffffffffffp-1022 // the greatest number below 2^-1022
	oneMant    = uint64(1) << 52
	powerCount = 2048
)

var (
	minusZero = math.Copysign(0, -1)
	infinity  = math.Inf(1)
)

// nanBits are NaNs of several bits and of both signs.
var nanBits = []uint64{
	0x7ff0000000000001, 0x7ff0000000000002, 0x7ff4000000000000, 0x7ff7ffffffffffff,
	0x7ff8000000000000, 0x7ff8000000000001, 0x7fffffffffffffff,
	0xfff0000000000001, 0xfff4000000000000, 0xfff8000000000000, 0xffffffffffffffff,
}

func sameFloat(a, b float64) bool {
	if math.IsNaN(a) || math.IsNaN(b) {
		return math.IsNaN(a) && math.IsNaN(b)
	}
	return math.Float64bits(a) == math.Float64bits(b)
}

func wantFloat(t *testing.T, got, want float64, what string, of ...any) {
	t.Helper()
	if !sameFloat(got, want) {
		t.Errorf(what+" = %x, want %x", append(of, got, want)...)
	}
}

// sampleFloats are floats without a NaN: all E with several M, and some from everywhere, each with both signs.
func sampleFloats() []float64 {
	var out []float64
	add := func(word uint64) {
		if f := math.Float64frombits(word); !math.IsNaN(f) {
			out = append(out, f, -f)
		}
	}
	for power := range uint64(powerCount) {
		for _, mant := range []uint64{0, 1, 2, 1 << 51, 0x5555555555555, oneMant - 2, oneMant - 1} {
			add(power<<52 | mant)
		}
	}
	for bit := range 52 {
		add(1 << bit)
		add(1<<bit | 1)
		add(1<<bit - 1)
		add(1023<<52 | 1<<bit)
	}
	word := uint64(7)
	for range 3000 {
		word = word*6364136223846793005 + 1442695040888963407
		add(word)
	}
	return out
}

func TestPartsOfNamed(t *testing.T) {
	if impl.FZero != 0 || impl.FNum != 1 || impl.FInf != 2 || impl.FNan != 3 {
		t.Fatal("kinds", impl.FZero, impl.FNum, impl.FInf, impl.FNan)
	}
	for _, c := range []struct {
		f    float64
		want impl.Parts
	}{
		{0, impl.Parts{Kind: impl.FZero}},
		{infinity, impl.Parts{Kind: impl.FInf}},
		{1, impl.Parts{Kind: impl.FNum, Mant: 1}},
		{3, impl.Parts{Kind: impl.FNum, Mant: 3}},
		{10, impl.Parts{Kind: impl.FNum, Mant: 5, Exp: 1}},
		{0.5, impl.Parts{Kind: impl.FNum, Mant: 1, Exp: -1}},
		{0.1, impl.Parts{Kind: impl.FNum, Mant: 3602879701896397, Exp: -55}},
		{1e22, impl.Parts{Kind: impl.FNum, Mant: 2384185791015625, Exp: 22}},
		{0x1p52, impl.Parts{Kind: impl.FNum, Mant: 1, Exp: 52}},
		{0x1p53 - 1, impl.Parts{Kind: impl.FNum, Mant: 1<<53 - 1}},
		{0x1p1023, impl.Parts{Kind: impl.FNum, Mant: 1, Exp: 1023}},
		{math.MaxFloat64, impl.Parts{Kind: impl.FNum, Mant: 1<<53 - 1, Exp: 971}},
		{normal, impl.Parts{Kind: impl.FNum, Mant: 1, Exp: -1022}},
		{normal + least, impl.Parts{Kind: impl.FNum, Mant: 1<<52 + 1, Exp: -1074}},
		{subnormal, impl.Parts{Kind: impl.FNum, Mant: 1<<52 - 1, Exp: -1074}},
		{0x1p-1023, impl.Parts{Kind: impl.FNum, Mant: 1, Exp: -1023}},
		{least, impl.Parts{Kind: impl.FNum, Mant: 1, Exp: -1074}},
		{2 * least, impl.Parts{Kind: impl.FNum, Mant: 1, Exp: -1073}},
		{3 * least, impl.Parts{Kind: impl.FNum, Mant: 3, Exp: -1074}},
	} {
		if got := impl.PartsOf(c.f); got != c.want {
			t.Errorf("PartsOf(%x) = %+v, want %+v", c.f, got, c.want)
		}
		c.want.Neg = true
		if got := impl.PartsOf(math.Copysign(c.f, -1)); got != c.want {
			t.Errorf("PartsOf(%x) = %+v, want %+v", -c.f, got, c.want)
		}
	}
	for _, word := range nanBits {
		if got := impl.PartsOf(math.Float64frombits(word)); got != (impl.Parts{Kind: impl.FNan}) {
			t.Errorf("PartsOf(%#x) = %+v", word, got)
		}
	}
}

// partsWith takes a float apart by the library's own means and by halving.
func partsWith(f float64) impl.Parts {
	parts := impl.Parts{Neg: math.Signbit(f)}
	if f == 0 {
		return parts
	}
	if math.IsInf(f, 0) {
		parts.Kind = impl.FInf
		return parts
	}
	parts.Kind = impl.FNum
	frac, exp := math.Frexp(math.Abs(f))
	parts.Mant, parts.Exp = int64(math.Ldexp(frac, 53)), exp-53
	for parts.Mant%2 == 0 {
		parts.Mant /= 2
		parts.Exp++
	}
	return parts
}

func TestPartsOfEverywhere(t *testing.T) {
	for _, f := range sampleFloats() {
		got := impl.PartsOf(f)
		if want := partsWith(f); got != want {
			t.Errorf("PartsOf(%x) = %+v, want %+v", f, got, want)
		}
		if got.Kind == impl.FNum {
			wantFloat(t, impl.Near(got.Neg, got.Mant, got.Exp), f, "Near of the parts of %x", f)
		}
	}
}

func TestBitsOfNamed(t *testing.T) {
	for _, c := range []struct {
		f    float64
		want uint64
	}{
		{0, 0}, {least, 1}, {2 * least, 2}, {subnormal, oneMant - 1}, {normal, oneMant}, {normal + least, oneMant + 1},
		{1, 1023 << 52}, {1 + 0x1p-52, 1023<<52 | 1}, {2, 1024 << 52}, {1.5, 1023<<52 | 1<<51},
		{0x1p1023, 2046 << 52}, {math.MaxFloat64, 2047<<52 - 1}, {infinity, 2047 << 52},
	} {
		if got := impl.BitsOf(c.f); got != int64(c.want) {
			t.Errorf("BitsOf(%x) = %#x, want %#x", c.f, got, c.want)
		}
		if got := impl.BitsOf(math.Copysign(c.f, -1)); got != int64(c.want|1<<63) {
			t.Errorf("BitsOf(%x) = %#x, want %#x", -c.f, got, c.want|1<<63)
		}
		wantFloat(t, impl.FromBits(int64(c.want)), c.f, "FromBits(%#x)", c.want)
		wantFloat(t, impl.FromBits(int64(c.want|1<<63)), math.Copysign(c.f, -1), "FromBits(%#x)", c.want|1<<63)
	}
	for _, word := range nanBits {
		if got := impl.BitsOf(math.Float64frombits(word)); got != 0x7ff8000000000000 {
			t.Errorf("BitsOf of the NaN %#x = %#x", word, got)
		}
		wantFloat(t, impl.FromBits(int64(word)), math.NaN(), "FromBits(%#x)", word)
	}
}

// floatWith is the float of its bits as the document counts them.
func floatWith(neg bool, power, mant uint64) float64 {
	f := math.NaN()
	switch {
	case power == 0:
		f = float64(mant) * least
	case power < 2047:
		f = math.Ldexp(float64(mant+oneMant), int(power)-1075)
	case mant == 0:
		f = infinity
	}
	if neg {
		return math.Copysign(f, -1)
	}
	return f
}

func TestFromBitsEveryPower(t *testing.T) {
	for power := range uint64(powerCount) {
		for _, mant := range []uint64{0, 1, 1 << 51, oneMant - 1} {
			word := power<<52 | mant
			wantFloat(t, impl.FromBits(int64(word)), floatWith(false, power, mant), "FromBits(%#x)", word)
			word |= 1 << 63
			wantFloat(t, impl.FromBits(int64(word)), floatWith(true, power, mant), "FromBits(%#x)", word)
		}
	}
}

func TestBitsGiveFloatsBack(t *testing.T) {
	for _, f := range sampleFloats() {
		word := impl.BitsOf(f)
		if word != int64(math.Float64bits(f)) {
			t.Errorf("BitsOf(%x) = %#x", f, word)
		}
		wantFloat(t, impl.FromBits(word), f, "FromBits(BitsOf(%x))", f)
	}
	for _, word := range nanBits {
		f := impl.FromBits(int64(word))
		wantFloat(t, impl.FromBits(impl.BitsOf(f)), f, "FromBits(BitsOf(%#x))", word)
	}
}

// nearWith rounds once, from a number without an end.
func nearWith(neg bool, mant int64, exp int) float64 {
	// Behind these the answer is the same, and big.Float has an end too.
	exp = max(-5000, min(exp, 5000))
	num := new(big.Float).SetUint64(uint64(mant))
	num.SetMantExp(num, exp)
	f, _ := num.Float64()
	if neg {
		return math.Copysign(f, -1)
	}
	return f
}

func wantNear(t *testing.T, mant int64, exp int, want float64) {
	t.Helper()
	wantFloat(t, impl.Near(false, mant, exp), want, "Near(false, %d, %d)", mant, exp)
	wantFloat(t, impl.Near(true, mant, exp), math.Copysign(want, -1), "Near(true, %d, %d)", mant, exp)
}

func TestNearOrdinary(t *testing.T) {
	for _, c := range []struct {
		mant int64
		exp  int
		want float64
	}{
		{1, 0, 1}, {1, 1, 2}, {1, -1, 0.5}, {3, -1, 1.5}, {6, -2, 1.5}, {3, 2, 12}, {5, 60, 0x5p60}, {96, -5, 3},
		{math.MaxInt64, 0, 0x1p63}, {math.MinInt64, 0, 0x1p63}, {math.MinInt64, -63, 1},
		{-1, 0, 0x1p64}, {-1, -64, 1}, {-1 << 11, 0, 0x1p64 - 0x1p11}, {-1<<11 + 1, 0, 0x1p64 - 0x1p11},
		{math.MinInt64 + 1<<11, 0, 0x1p63 + 0x1p11}, {math.MinInt64 + 1<<10, 0, 0x1p63}, {math.MinInt64 + 1<<10 + 1, 0, 0x1p63 + 0x1p11},
	} {
		wantNear(t, c.mant, c.exp, c.want)
	}
}

func TestNearZero(t *testing.T) {
	for _, exp := range []int{math.MinInt, -5000, -1075, -1074, -1, 0, 1, 971, 972, 1024, 5000, math.MaxInt} {
		wantNear(t, 0, exp, 0)
	}
}

func TestNearMidst(t *testing.T) {
	for _, exp := range []int{-1074, -1073, -1000, -60, -1, 0, 1, 100, 969} {
		for _, mant := range []int64{1 << 52, 1<<52 + 1, 1<<52 + 2, 1<<53 - 3, 1<<53 - 2, 1<<53 - 1} {
			down := math.Ldexp(float64(mant), exp+1)
			up := math.Ldexp(float64(mant+1), exp+1)
			even := down
			if mant%2 == 1 {
				even = up
			}
			wantNear(t, 2*mant, exp, down)
			wantNear(t, 2*mant+1, exp, even)
			wantNear(t, 2*mant+2, exp, up)
			// just beside the midst, as near as 64 bits tell it
			wide := mant << 11
			wantNear(t, wide+1, exp-10, down)
			wantNear(t, wide+1<<10-1, exp-10, down)
			wantNear(t, wide+1<<10, exp-10, even)
			wantNear(t, wide+1<<10+1, exp-10, up)
			wantNear(t, wide+1<<11-1, exp-10, up)
		}
	}
}

func TestNearLonger(t *testing.T) {
	for _, c := range []struct {
		mant int64
		exp  int
		want float64
	}{
		{1<<54 - 1, 0, 0x1p54},
		{1<<54 - 2, 0, 0x1p54 - 2},
		{1<<55 - 1, -55, 1},
		{1<<55 - 2, -55, 1},
		{1<<55 - 3, -55, 1 - 0x1p-53},
		{-1, 0, 0x1p64},
		{-1 << 10, 0, 0x1p64},
		{-1<<10 - 1, 0, 0x1p64 - 0x1p11},
		// into the infinity
		{1<<53 - 1, 971, math.MaxFloat64},
		{1<<54 - 2, 970, math.MaxFloat64},
		{1<<54 - 1, 970, infinity},
		{1<<55 - 3, 969, math.MaxFloat64},
		{1<<55 - 2, 969, infinity},
		{-1<<10 - 1, 960, math.MaxFloat64},
		{-1 << 10, 960, infinity},
		{-1, 960, infinity},
		{1 << 53, 971, infinity},
		{1 << 52, 971, 0x1p1023},
		{1, 1023, 0x1p1023},
		{1, 1024, infinity},
		{3, 1022, 0x3p1022},
		{3, 1023, infinity},
		// from below 2^-1022 up to it
		{1<<52 - 1, -1074, subnormal},
		{1<<53 - 2, -1075, subnormal},
		{1<<53 - 1, -1075, normal},
		{1<<54 - 3, -1076, subnormal},
		{1<<54 - 2, -1076, normal},
		{1 << 52, -1074, normal},
		{1<<53 + 1, -1075, normal},
		{1<<53 + 3, -1075, normal + 2*least},
		{-1, -1086, normal},
		{-1 << 11, -1086, normal},
		{-1<<11 - 1, -1086, subnormal},
	} {
		wantNear(t, c.mant, c.exp, c.want)
	}
}

func TestNearLeast(t *testing.T) {
	for _, c := range []struct {
		mant int64
		exp  int
		want float64
	}{
		{1, -1074, least}, {3, -1074, 3 * least}, {1, -1073, 2 * least},
		{1, -1075, 0}, {2, -1076, 0}, {1 << 62, -1137, 0}, {math.MinInt64, -1138, 0},
		{3, -1076, least}, {math.MinInt64 + 1, -1138, least}, {1<<62 + 1, -1137, least}, {-1, -1138, least},
		{1<<62 - 1, -1137, 0}, {math.MaxInt64, -1138, 0}, {3, -1077, 0},
		{-1, -1139, 0}, {math.MinInt64, -1139, 0}, {-1, -1140, 0}, {-1, -1141, 0}, {-1, -1137, 2 * least},
		{3, -1075, 2 * least}, {5, -1075, 2 * least}, {7, -1075, 4 * least}, {5, -1076, least}, {6, -1076, 2 * least}, {7, -1076, 2 * least},
		{9, -1077, least}, {11, -1077, least}, {12, -1077, 2 * least}, {13, -1077, 2 * least},
	} {
		wantNear(t, c.mant, c.exp, c.want)
	}
}

func TestNearFarAway(t *testing.T) {
	for _, mant := range []int64{1, 2, 3, 1 << 52, 1<<53 - 1, math.MaxInt64, math.MinInt64, -1} {
		for _, exp := range []int{1024, 1025, 1100, 2048, 4096, 1 << 31, 1 << 32, 1<<32 - 1074, 1 << 62, math.MaxInt - 1100, math.MaxInt - 64, math.MaxInt - 1, math.MaxInt} {
			wantNear(t, mant, exp, infinity)
		}
		for _, exp := range []int{-1139, -1140, -1200, -2048, -4096, -1 << 31, -1 << 32, -1<<32 + 971, -1 << 62, math.MinInt + 1100, math.MinInt + 64, math.MinInt + 1, math.MinInt} {
			wantNear(t, mant, exp, 0)
		}
	}
}

func TestNearEverywhere(t *testing.T) {
	var mants []int64
	for bit := range 64 {
		for _, by := range []int64{-3, -2, -1, 0, 1, 2, 3} {
			mants = append(mants, int64(1)<<bit+by)
		}
		for low := range bit {
			mants = append(mants, int64(1)<<bit|int64(1)<<low)
		}
	}
	word := uint64(11)
	for i := range 200 {
		word = word*6364136223846793005 + 1442695040888963407
		mants = append(mants, int64(word), int64(word>>(i%64)))
	}
	for i, mant := range mants {
		for exp := -1145 + i%3; exp < 1030; exp += 3 {
			if exp > -950 && exp < 900 && (exp+i)%31 > 2 {
				continue
			}
			wantNear(t, mant, exp, nearWith(false, mant, exp))
		}
	}
}

func TestNearOfSampleInts(t *testing.T) {
	for _, mant := range sampleInts() {
		for _, exp := range []int{math.MinInt, -1140, -1138, -1100, -1075, -1064, -1000, -64, -1, 0, 1, 64, 900, 959, 960, 961, 970, 1000, 1023, 1024, math.MaxInt} {
			wantNear(t, mant, exp, nearWith(false, mant, exp))
		}
	}
}

func TestUpNamed(t *testing.T) {
	for _, c := range []struct{ f, want float64 }{
		{0, least}, {minusZero, least}, {least, 2 * least}, {-least, minusZero}, {-2 * least, -least},
		{subnormal, normal}, {normal, normal + least}, {-normal, -subnormal}, {-normal - least, -normal},
		{1, 1 + 0x1p-52}, {-1, -1 + 0x1p-53}, {2 - 0x1p-52, 2}, {-2, -2 + 0x1p-52}, {-1 - 0x1p-52, -1},
		{math.MaxFloat64, infinity}, {infinity, infinity}, {-infinity, -math.MaxFloat64},
		{-math.MaxFloat64, -math.MaxFloat64 + 0x1p971}, {math.NaN(), math.NaN()},
	} {
		wantFloat(t, impl.Up(c.f), c.want, "Up(%x)", c.f)
	}
	for _, word := range nanBits {
		wantFloat(t, impl.Up(math.Float64frombits(word)), math.NaN(), "Up(%#x)", word)
	}
}

func TestUpEverywhere(t *testing.T) {
	for _, f := range sampleFloats() {
		want := math.Nextafter(f, infinity)
		if f == -least {
			want = minusZero
		}
		got := impl.Up(f)
		wantFloat(t, got, want, "Up(%x)", f)
		// going down again by Up on the other side of zero
		if !math.IsInf(f, 0) && f != 0 {
			wantFloat(t, -impl.Up(-got), f, "-Up(-Up(%x))", f)
		}
	}
}

func TestUpOfPowers(t *testing.T) {
	for exp := -1074; exp <= 1023; exp++ {
		power := math.Ldexp(1, exp)
		step := math.Ldexp(1, max(exp-52, -1074))
		below := math.Ldexp(1, max(exp-53, -1074))
		for _, c := range [][2]float64{{power - below, power}, {power, power + step}, {-power - step, -power}, {-power, -(power - below)}} {
			if c[0] == 0 {
				c[0] = minusZero
			}
			wantFloat(t, impl.Up(c[0]), c[1], "Up(%x)", c[0])
		}
	}
}

func TestPartsSameAgain(t *testing.T) {
	for _, f := range sampleFloats()[:4000] {
		if impl.PartsOf(f) != impl.PartsOf(f) || impl.BitsOf(f) != impl.BitsOf(f) || !sameFloat(impl.Up(f), impl.Up(f)) {
			t.Errorf("%x has two answers", f)
		}
	}
}
