package tests

import (
	"math"
	"math/big"
	"testing"

	"loop.example/grain/impl"
)

const two63 = 0x1p63

func above(f float64) float64 { return math.Nextafter(f, infinity) }

func below(f float64) float64 { return math.Nextafter(f, -infinity) }

// floatsUpward are floats from the least to the greatest, each less than the next.
func floatsUpward() []float64 {
	positive := []float64{
		least, 2 * least, 3 * least, below(subnormal), subnormal, normal, normal + least, 0x1p-100, below(0.5), 0.5, above(0.5),
		below(1), 1, above(1), 1.5, below(2), 2, above(2), 1e10, 0x1p52 - 0.5, 0x1p52, 0x1p53 - 1, 0x1p53, 0x1p53 + 2,
		below(two63), two63, above(two63), 0x1p64, 1e300, 0x1p1023, below(math.MaxFloat64), math.MaxFloat64, infinity,
	}
	var out []float64
	for i := len(positive) - 1; i >= 0; i-- {
		out = append(out, -positive[i])
	}
	out = append(out, 0)
	return append(out, positive...)
}

func wantOrder(t *testing.T, a, b float64, want int) {
	t.Helper()
	if got := impl.Order(a, b); got != want {
		t.Errorf("Order(%x, %x) = %d, want %d", a, b, got, want)
	}
}

func TestOrderEachWithEach(t *testing.T) {
	floats := floatsUpward()
	for i, a := range floats {
		for k, b := range floats {
			want := 0
			if i < k {
				want = -1
			} else if i > k {
				want = 1
			}
			wantOrder(t, a, b, want)
		}
	}
}

func TestOrderZeros(t *testing.T) {
	for _, a := range []float64{0, minusZero} {
		wantOrder(t, a, 0, 0)
		wantOrder(t, a, minusZero, 0)
		for _, b := range []float64{least, subnormal, normal, 1, math.MaxFloat64, infinity} {
			wantOrder(t, a, b, -1)
			wantOrder(t, b, a, 1)
			wantOrder(t, a, -b, 1)
			wantOrder(t, -b, a, -1)
		}
	}
}

func TestOrderNeighbours(t *testing.T) {
	for _, f := range sampleFloats() {
		wantOrder(t, f, f, 0)
		if f != 0 {
			wantOrder(t, f, -f, int(math.Copysign(1, f)))
		}
		if next := above(f); next != f {
			wantOrder(t, f, next, -1)
			wantOrder(t, next, f, 1)
		}
	}
}

func TestOrderNan(t *testing.T) {
	for _, word := range nanBits {
		nan := math.Float64frombits(word)
		for _, f := range append(floatsUpward(), minusZero) {
			wantOrder(t, nan, f, 2)
			wantOrder(t, f, nan, 2)
		}
		for _, other := range nanBits {
			wantOrder(t, nan, math.Float64frombits(other), 2)
		}
	}
}

func wantOrderInt(t *testing.T, n int64, f float64, want int) {
	t.Helper()
	if got := impl.OrderInt(n, f); got != want {
		t.Errorf("OrderInt(%d, %x) = %d, want %d", n, f, got, want)
	}
}

func TestOrderIntNamed(t *testing.T) {
	for _, c := range []struct {
		n    int64
		f    float64
		want int
	}{
		{0, 0, 0}, {0, minusZero, 0}, {1, 0, 1}, {1, minusZero, 1}, {-1, 0, -1}, {-1, minusZero, -1},
		{1, 1, 0}, {1, -1, 1}, {-1, 1, -1}, {-1, -1, 0}, {2, 1, 1}, {1, 2, -1}, {-2, -1, -1}, {-1, -2, 1},
		// not whole
		{0, 0.5, -1}, {1, 0.5, 1}, {0, -0.5, 1}, {-1, -0.5, -1}, {-1, 0.5, -1}, {1, -0.5, 1},
		{2, 2.5, -1}, {3, 2.5, 1}, {-2, -2.5, 1}, {-3, -2.5, -1},
		{7, above(7), -1}, {7, below(7), 1}, {-7, above(-7), -1}, {-7, below(-7), 1},
		{1 << 51, 0x1p51 + 0.5, -1}, {1<<51 + 1, 0x1p51 + 0.5, 1}, {-1 << 51, -0x1p51 - 0.5, 1}, {-1<<51 - 1, -0x1p51 - 0.5, -1},
		// below 2^-1022
		{0, least, -1}, {1, least, 1}, {0, -least, 1}, {-1, -least, -1},
		{0, subnormal, -1}, {1, subnormal, 1}, {0, -subnormal, 1}, {-1, -subnormal, -1}, {0, normal, -1}, {0, -normal, 1},
		// ints that no float is
		{1 << 53, 0x1p53, 0}, {1<<53 + 1, 0x1p53, 1}, {1<<53 + 1, 0x1p53 + 2, -1}, {1<<53 + 2, 0x1p53 + 2, 0},
		{1<<53 - 1, 0x1p53, -1}, {1<<53 - 1, 0x1p53 - 1, 0}, {1<<53 + 3, 0x1p53 + 4, -1}, {1<<53 + 3, 0x1p53 + 2, 1},
		{-1 << 53, -0x1p53, 0}, {-1<<53 - 1, -0x1p53, -1}, {-1<<53 - 1, -0x1p53 - 2, 1}, {-1<<53 - 2, -0x1p53 - 2, 0},
		{-1<<53 + 1, -0x1p53, 1}, {-1<<53 + 1, -0x1p53 + 1, 0},
		// the ends of the ints
		{math.MaxInt64, two63, -1}, {math.MaxInt64, below(two63), 1}, {math.MaxInt64 - 1023, below(two63), 0},
		{math.MaxInt64 - 1024, below(two63), -1}, {math.MaxInt64 - 1022, below(two63), 1}, {math.MaxInt64, above(two63), -1},
		{math.MaxInt64, -two63, 1}, {math.MinInt64, two63, -1}, {0, two63, -1}, {-1, two63, -1},
		{math.MinInt64, -two63, 0}, {math.MinInt64 + 1, -two63, 1}, {math.MinInt64, above(-two63), -1}, {math.MinInt64, below(-two63), 1},
		{math.MinInt64 + 1024, above(-two63), 0}, {math.MinInt64 + 1023, above(-two63), -1}, {math.MinInt64 + 1025, above(-two63), 1},
		{0, -two63, 1}, {math.MaxInt64, 0x1p64, -1}, {-1, 0x1p64, -1}, {math.MinInt64, -0x1p64, 1}, {0, 0x1p64, -1}, {0, -0x1p64, 1},
	} {
		wantOrderInt(t, c.n, c.f, c.want)
	}
}

func TestOrderIntFarAway(t *testing.T) {
	for _, n := range sampleInts() {
		for _, f := range []float64{two63, above(two63), 0x1p64, 0x3p63, 0x1p65, 0x1p127, 0x1p128, 1e300, math.MaxFloat64, infinity} {
			wantOrderInt(t, n, f, -1)
			if f > two63 {
				wantOrderInt(t, n, -f, 1)
			}
		}
		for _, word := range nanBits {
			wantOrderInt(t, n, math.Float64frombits(word), 2)
		}
	}
}

// exact is a float's number, without an end.
func exact(f float64) *big.Rat { return new(big.Rat).SetFloat64(f) }

func TestOrderIntAroundEveryInt(t *testing.T) {
	for _, n := range sampleInts() {
		num := new(big.Rat).SetInt64(n)
		near := float64(n)
		for _, f := range []float64{near, above(near), below(near), near + 0.5, near - 0.5, near + 1, near - 1, -near, near / 2, near * 2} {
			wantOrderInt(t, n, f, num.Cmp(exact(f)))
		}
	}
}

func TestOrderIntEverywhere(t *testing.T) {
	ints := []int64{0, 1, -1, 2, -2, 1000, -1000, 1 << 53, 1<<53 + 1, -1<<53 - 1, math.MaxInt64, math.MinInt64}
	for _, f := range sampleFloats() {
		if math.IsInf(f, 0) {
			continue
		}
		num := exact(f)
		for _, n := range ints {
			wantOrderInt(t, n, f, new(big.Rat).SetInt64(n).Cmp(num))
		}
		if math.Abs(f) >= two63 {
			continue
		}
		for _, n := range []int64{int64(f) - 1, int64(f), int64(f) + 1} {
			wantOrderInt(t, n, f, new(big.Rat).SetInt64(n).Cmp(num))
		}
	}
}

func TestFloorNamed(t *testing.T) {
	for _, c := range []struct{ f, want float64 }{
		{0, 0}, {minusZero, minusZero}, {infinity, infinity}, {-infinity, -infinity},
		{1, 1}, {-1, -1}, {2, 2}, {-2, -2}, {1000, 1000}, {-1000, -1000},
		{0.5, 0}, {-0.5, -1}, {1.5, 1}, {-1.5, -2}, {2.5, 2}, {-2.5, -3}, {2.9, 2}, {-2.9, -3}, {2.1, 2}, {-2.1, -3},
		{least, 0}, {-least, -1}, {subnormal, 0}, {-subnormal, -1}, {normal, 0}, {-normal, -1}, {0x1p-64, 0}, {-0x1p-64, -1},
		{below(0.5), 0}, {above(-0.5), -1}, {below(1), 0}, {above(-1), -1}, {above(1), 1}, {below(-1), -2},
		{below(7), 6}, {above(7), 7}, {above(-7), -7}, {below(-7), -8}, {below(8), 7}, {above(8), 8}, {above(-8), -8}, {below(-8), -9},
		{0x1p51 + 0.5, 0x1p51}, {-0x1p51 - 0.5, -0x1p51 - 1},
		{0x1p52 - 0.5, 0x1p52 - 1}, {0x1p52, 0x1p52}, {0x1p52 + 1, 0x1p52 + 1}, {-0x1p52 + 0.5, -0x1p52}, {-0x1p52, -0x1p52}, {-0x1p52 - 1, -0x1p52 - 1},
		{0x1p53 - 1, 0x1p53 - 1}, {0x1p53, 0x1p53}, {0x1p53 + 2, 0x1p53 + 2}, {-0x1p53 + 1, -0x1p53 + 1}, {-0x1p53, -0x1p53}, {-0x1p53 - 2, -0x1p53 - 2},
		{below(two63), below(two63)}, {two63, two63}, {above(two63), above(two63)}, {-two63, -two63}, {above(-two63), above(-two63)}, {below(-two63), below(-two63)},
		{0x1p64, 0x1p64}, {1e300, 1e300}, {-1e300, -1e300}, {math.MaxFloat64, math.MaxFloat64}, {-math.MaxFloat64, -math.MaxFloat64},
	} {
		wantFloat(t, impl.Floor(c.f), c.want, "Floor(%x)", c.f)
	}
	for _, word := range nanBits {
		wantFloat(t, impl.Floor(math.Float64frombits(word)), math.NaN(), "Floor(%#x)", word)
	}
}

// floorWith divides exactly; big.Int's Div rounds down for the divisors here, which are above 0.
func floorWith(f float64) *big.Int {
	num := exact(f)
	return new(big.Int).Div(num.Num(), num.Denom())
}

func TestFloorEverywhere(t *testing.T) {
	for _, f := range sampleFloats() {
		if math.IsInf(f, 0) || f == 0 {
			wantFloat(t, impl.Floor(f), f, "Floor(%x)", f)
			continue
		}
		want, _ := new(big.Float).SetInt(floorWith(f)).Float64()
		wantFloat(t, impl.Floor(f), want, "Floor(%x)", f)
	}
}

func wantToInt(t *testing.T, f float64, want impl.Whole) {
	t.Helper()
	if got := impl.ToInt(f); got != want {
		t.Errorf("ToInt(%x) = %+v, want %+v", f, got, want)
	}
}

func TestToIntWhole(t *testing.T) {
	for _, c := range []struct {
		f   float64
		num int64
	}{
		{0, 0}, {minusZero, 0}, {1, 1}, {-1, -1}, {-3, -3}, {10, 10}, {1e15, 1e15}, {-1e18, -1e18},
		{0x1p52, 1 << 52}, {0x1p52 + 1, 1<<52 + 1}, {0x1p53 - 1, 1<<53 - 1}, {0x1p53, 1 << 53}, {-0x1p53 - 2, -1<<53 - 2},
		{0x1p62, 1 << 62}, {-0x1p62, -1 << 62}, {below(two63), math.MaxInt64 - 1023},
		{above(-two63), math.MinInt64 + 1024}, {-two63, math.MinInt64},
	} {
		wantToInt(t, c.f, impl.Whole{Num: c.num})
	}
}

func TestToIntNotWhole(t *testing.T) {
	for _, f := range []float64{
		0.5, 1.5, 2.5, 0.1, least, subnormal, normal, 0x1p-64, 0x1p-53, below(1), above(1), below(7), above(7), 1e10 + 0.25,
		0x1p51 + 0.5, 0x1p52 - 0.5, 0x1p51 - 0.25,
	} {
		wantToInt(t, f, impl.Whole{Code: 2})
		wantToInt(t, -f, impl.Whole{Code: 2})
	}
}

func TestToIntOutside(t *testing.T) {
	for _, f := range []float64{
		two63, above(two63), 0x3p62, 0x1p64, 0x3p63, 0x1p65, 0x1p127, 0x1p128, 1e300, math.MaxFloat64, infinity,
	} {
		wantToInt(t, f, impl.Whole{Code: 3})
		if f > two63 {
			wantToInt(t, -f, impl.Whole{Code: 3})
		}
	}
	wantToInt(t, below(-two63), impl.Whole{Code: 3})
	for _, word := range nanBits {
		wantToInt(t, math.Float64frombits(word), impl.Whole{Code: 3})
	}
}

// toIntWith asks the exact number.
func toIntWith(f float64) impl.Whole {
	if math.IsInf(f, 0) {
		return impl.Whole{Code: 3}
	}
	floor := floorWith(f)
	switch {
	case !floor.IsInt64():
		return impl.Whole{Code: 3}
	case !exact(f).IsInt():
		return impl.Whole{Code: 2}
	}
	return impl.Whole{Num: floor.Int64()}
}

func TestToIntEverywhere(t *testing.T) {
	for _, f := range sampleFloats() {
		wantToInt(t, f, toIntWith(f))
	}
	for _, n := range sampleInts() {
		for _, f := range []float64{float64(n), above(float64(n)), below(float64(n)), float64(n) + 0.5} {
			wantToInt(t, f, toIntWith(f))
		}
	}
}

func TestOrderSameAgain(t *testing.T) {
	floats := sampleFloats()[:4000]
	for i, f := range floats {
		other := floats[len(floats)-1-i]
		if impl.Order(f, other) != impl.Order(f, other) || impl.OrderInt(int64(i), f) != impl.OrderInt(int64(i), f) ||
			!sameFloat(impl.Floor(f), impl.Floor(f)) || impl.ToInt(f) != impl.ToInt(f) {
			t.Errorf("%x has two answers", f)
		}
	}
}
