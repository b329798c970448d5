package tests

import (
	"fmt"
	"math"
	"math/rand/v2"
	"regexp"
	"slices"
	"strconv"
	"strings"
	"testing"

	"loop.example/grain/impl"
)

// Each arg has the field that it does not show filled too, with what would be seen at once.
func whole(n int64) impl.Arg      { return impl.Arg{Num: n, Flt: math.NaN()} }
func floating(f float64) impl.Arg { return impl.Arg{Real: true, Num: 77, Flt: f} }

func wantFormat(t *testing.T, pattern, want string, args ...impl.Arg) {
	t.Helper()
	if got := impl.Format(pattern, args); got != (impl.Formatted{Ok: true, Text: want}) {
		t.Errorf("Format(%q, %v) = %+v, want %q", pattern, args, got, want)
	}
}

func wantFault(t *testing.T, pattern string, at int, args ...impl.Arg) {
	t.Helper()
	if got := impl.Format(pattern, args); got != (impl.Formatted{At: at}) {
		t.Errorf("Format(%q, %v) = %+v, want a fault at %d", pattern, args, got, at)
	}
}

// wantEach asks what a pattern of one place writes of each arg.
func wantEach(t *testing.T, pattern string, wants map[impl.Arg]string) {
	t.Helper()
	for arg, want := range wants {
		wantFormat(t, pattern, want, arg)
	}
}

func bytesOf(count int) string { return strings.Repeat("a", count) }

func blanks(count int) string { return strings.Repeat(" ", count) }

func TestFormatEmpty(t *testing.T) {
	for _, args := range [][]impl.Arg{nil, {}} {
		if got := impl.Format("", args); got != (impl.Formatted{Ok: true}) {
			t.Errorf("%+v", got)
		}
	}
	wantFault(t, "", 0, whole(1))
	wantFault(t, "", 0, floating(1))
	wantFault(t, "", 0, impl.Arg{}, impl.Arg{})
}

func TestFormatBytesForThemselves(t *testing.T) {
	all := ""
	for c := range 256 {
		one := string([]byte{byte(c)})
		if one == "%" {
			continue
		}
		all += one
		wantFormat(t, one, one)
		wantFormat(t, one+"%d"+one, one+"5"+one, whole(5))
		wantFormat(t, "%%"+one+"%%", "%"+one+"%")
	}
	wantFormat(t, all, all)
	for _, text := range []string{"d", "abc", "-0+5.2f", "\x00", "\x00\x00a\x00", "\xff\xfe", "\xc3", "\xe2\x82", "\xed\xa0\x80", "\xf4\x90\x80\x80", "é€𝄞", "\xef\xbb\xbf", "\r\n\t\\\"'", "\x7f\x80"} {
		wantFormat(t, text, text)
		wantFormat(t, text+"%g"+text, text+"0.5"+text, floating(0.5))
	}
}

func TestFormatPercents(t *testing.T) {
	wantFormat(t, "%%", "%")
	wantFormat(t, "%%%%", "%%")
	wantFormat(t, "%%%%%%", "%%%")
	wantFormat(t, "a%%b", "a%b")
	wantFormat(t, "%%d", "%d")
	wantFormat(t, "%%5.1f", "%5.1f")
	wantFormat(t, "%%%d", "%7", whole(7))
	wantFormat(t, "%d%%", "7%", whole(7))
	wantFormat(t, "%d%%%d", "7%8", whole(7), whole(8))
	wantFormat(t, "%%%d%%", "%7%", whole(7))
	wantFormat(t, "%%%%%d%%%%", "%%7%%", whole(7))
	wantFormat(t, "%%d%d", "%d7", whole(7))
	wantFault(t, "%%", 2, whole(7))
	wantFault(t, "%%d", 3, whole(7))
	wantFault(t, "%%%", 3)
	wantFault(t, "%%%%%", 5)
	wantFault(t, "%%%", 3, whole(7))
	// It is no letter, so that nothing may stand between the two.
	for _, between := range []string{"-", "0", "+", "5", ".1", "-0+5.1", " "} {
		wantFault(t, "%"+between+"%", 1+len(strings.TrimSpace(between)), whole(7))
		wantFault(t, "%"+between+"%", 1+len(strings.TrimSpace(between)))
	}
}

func TestFormatWholes(t *testing.T) {
	wantEach(t, "%d", map[impl.Arg]string{
		{Num: 0}: "0", {Num: 1}: "1", {Num: -1}: "-1", {Num: 7}: "7", {Num: 10}: "10", {Num: -10}: "-10", {Num: 255}: "255",
		{Num: math.MaxInt64}: "9223372036854775807", {Num: math.MinInt64}: "-9223372036854775808", {Num: math.MinInt64 + 1}: "-9223372036854775807",
	})
	wantEach(t, "%x", map[impl.Arg]string{
		{Num: 0}: "0", {Num: 1}: "1", {Num: -1}: "ffffffffffffffff", {Num: 10}: "a", {Num: 16}: "10", {Num: 255}: "ff", {Num: -255}: "ffffffffffffff01", {Num: 0x123456789abcdef}: "123456789abcdef",
		{Num: math.MaxInt64}: "7fffffffffffffff", {Num: math.MinInt64}: "8000000000000000", {Num: math.MinInt64 + 1}: "8000000000000001",
	})
	for _, n := range sampleInts() {
		wantFormat(t, "%d", strconv.FormatInt(n, 10), whole(n))
		wantFormat(t, "%x", strconv.FormatUint(uint64(n), 16), whole(n))
	}
}

func TestFormatFloats(t *testing.T) {
	for _, c := range []struct {
		f           float64
		e, f6, g, h string
	}{
		{0, "0.000000e0", "0.000000", "0", "0x0p0"},
		{1, "1.000000e0", "1.000000", "1", "0x1p0"},
		{0.5, "5.000000e-1", "0.500000", "0.5", "0x1p-1"},
		{1.5, "1.500000e0", "1.500000", "1.5", "0x3p-1"},
		{12, "1.200000e1", "12.000000", "12", "0x3p2"},
		{0.1, "1.000000e-1", "0.100000", "0.1", "0xccccccccccccdp-55"},
		{1234567.25, "1.234567e6", "1234567.250000", "1234567.25", "0x4b5a1dp-2"},
		{1e21, "1.000000e21", "1000000000000000000000.000000", "1e21", "0x1b1ae4d6e2ef5p21"},
		{1e-7, "1.000000e-7", "0.000000", "1e-7", "0x35afe535795e9p-73"},
		{0.0000005, "5.000000e-7", "0.000000", "5e-7", "0x10c6f7a0b5ed8dp-73"},
		{9.9999999, "1.000000e1", "10.000000", "9.9999999", impl.HexOf(9.9999999)},
		{least, "4.940656e-324", "0.000000", "5e-324", "0x1p-1074"},
		{math.MaxFloat64, "1.797693e308", impl.Fixed(math.MaxFloat64, 6), "1.7976931348623157e308", "0x1fffffffffffffp971"},
		{infinity, "inf", "inf", "inf", "inf"},
	} {
		for by, sign := range map[float64]string{1: "", -1: "-"} {
			arg := floating(math.Copysign(c.f, by))
			wantFormat(t, "%e", sign+c.e, arg)
			wantFormat(t, "%f", sign+c.f6, arg)
			wantFormat(t, "%g", sign+c.g, arg)
			wantFormat(t, "%h", sign+c.h, arg)
		}
	}
	for _, word := range append(nanBits, math.Float64bits(math.NaN())) {
		for _, letter := range []string{"e", "f", "g", "h"} {
			wantFormat(t, "%"+letter, "nan", floating(math.Float64frombits(word)))
		}
	}
}

func TestFormatFloatsAsWritten(t *testing.T) {
	for i, f := range sampleFloats() {
		if i%20 != 0 {
			continue
		}
		for _, one := range []struct{ place, want string }{
			{"%e", impl.Digits(f, 7)}, {"%.0e", impl.Digits(f, 1)}, {"%.16e", impl.Digits(f, 17)}, {"%.399e", impl.Digits(f, 400)},
			{"%f", impl.Fixed(f, 6)}, {"%.0f", impl.Fixed(f, 0)}, {"%.17f", impl.Fixed(f, 17)}, {"%.400f", impl.Fixed(f, 400)},
			{"%g", impl.Shortest(f)}, {"%h", impl.HexOf(f)},
		} {
			wantFormat(t, one.place, one.want, floating(f))
		}
	}
}

func TestFormatEachTakesTheNext(t *testing.T) {
	wantFormat(t, "%d,%x;%e %f|%g:%h", "1,2;3.000000e0 4.000000|5:0x3p1", whole(1), whole(2), floating(3), floating(4), floating(5), floating(6))
	wantFormat(t, "%d%d%d", "12-3", whole(1), whole(2), whole(-3))
	wantFormat(t, "%g%d%g%d", "0.5-11.57", floating(0.5), whole(-1), floating(1.5), whole(7))
	wantFormat(t, "<%5d><%-5d><%05d><%+d><%5.1f>", "<   -7><7    ><-0007><+7><  2.5>", whole(-7), whole(7), whole(-7), whole(7), floating(2.5))
	// What one place asks for does not stay for the next one.
	wantFormat(t, "%+d%d", "+11", whole(1), whole(1))
	wantFormat(t, "%-3d%3d", "1    1", whole(1), whole(1))
	wantFormat(t, "%03d%3d", "001  1", whole(1), whole(1))
	wantFormat(t, "%9d%d", "        11", whole(1), whole(1))
	wantFormat(t, "%.1f%f", "1.01.000000", floating(1), floating(1))
	wantFormat(t, "%.1e%g", "1.0e01", floating(1), floating(1))
}

// flagTexts are all texts of up to so many flags.
func flagTexts(most int) []string {
	out := []string{""}
	for first := 0; most > 0; most-- {
		end := len(out)
		for _, text := range out[first:end] {
			out = append(out, text+"-", text+"0", text+"+")
		}
		first = end
	}
	return out
}

func TestFormatFlagsNamed(t *testing.T) {
	for _, c := range []struct {
		flags                                   string
		positive, negative, hex, inf, less, nan string
	}{
		{"", "       7", "      -7", "      ff", "     inf", "    -inf", "     nan"},
		{"-", "7       ", "-7      ", "ff      ", "inf     ", "-inf    ", "nan     "},
		{"0", "00000007", "-0000007", "000000ff", "     inf", "    -inf", "     nan"},
		{"+", "      +7", "      -7", "      ff", "    +inf", "    -inf", "     nan"},
		{"-0", "7       ", "-7      ", "ff      ", "inf     ", "-inf    ", "nan     "},
		{"0-", "7       ", "-7      ", "ff      ", "inf     ", "-inf    ", "nan     "},
		{"-+", "+7      ", "-7      ", "ff      ", "+inf    ", "-inf    ", "nan     "},
		{"+-", "+7      ", "-7      ", "ff      ", "+inf    ", "-inf    ", "nan     "},
		{"0+", "+0000007", "-0000007", "000000ff", "    +inf", "    -inf", "     nan"},
		{"+0", "+0000007", "-0000007", "000000ff", "    +inf", "    -inf", "     nan"},
		{"-0+", "+7      ", "-7      ", "ff      ", "+inf    ", "-inf    ", "nan     "},
		{"-+0", "+7      ", "-7      ", "ff      ", "+inf    ", "-inf    ", "nan     "},
		{"0-+", "+7      ", "-7      ", "ff      ", "+inf    ", "-inf    ", "nan     "},
		{"0+-", "+7      ", "-7      ", "ff      ", "+inf    ", "-inf    ", "nan     "},
		{"+-0", "+7      ", "-7      ", "ff      ", "+inf    ", "-inf    ", "nan     "},
		{"+0-", "+7      ", "-7      ", "ff      ", "+inf    ", "-inf    ", "nan     "},
		{"--", "7       ", "-7      ", "ff      ", "inf     ", "-inf    ", "nan     "},
		{"00", "00000007", "-0000007", "000000ff", "     inf", "    -inf", "     nan"},
		{"++", "      +7", "      -7", "      ff", "    +inf", "    -inf", "     nan"},
		{strings.Repeat("-", 50), "7       ", "-7      ", "ff      ", "inf     ", "-inf    ", "nan     "},
		{zeros(50), "00000007", "-0000007", "000000ff", "     inf", "    -inf", "     nan"},
		{strings.Repeat("+", 50), "      +7", "      -7", "      ff", "    +inf", "    -inf", "     nan"},
		{strings.Repeat("+0", 50), "+0000007", "-0000007", "000000ff", "    +inf", "    -inf", "     nan"},
	} {
		wantFormat(t, "%"+c.flags+"8d", c.positive, whole(7))
		wantFormat(t, "%"+c.flags+"8d", c.negative, whole(-7))
		wantFormat(t, "%"+c.flags+"8x", c.hex, whole(255))
		wantFormat(t, "%"+c.flags+"8g", c.positive, floating(7))
		wantFormat(t, "%"+c.flags+"8g", c.negative, floating(-7))
		wantFormat(t, "%"+c.flags+"8.0f", c.positive, floating(7))
		for _, letter := range []string{"e", "f", ".0e", ".0f", ".7f", "g", "h"} {
			wantFormat(t, "%"+c.flags+"8"+letter, c.inf, floating(infinity))
			wantFormat(t, "%"+c.flags+"8"+letter, c.less, floating(-infinity))
			wantFormat(t, "%"+c.flags+"8"+letter, c.nan, floating(math.NaN()))
			wantFormat(t, "%"+c.flags+"8"+letter, c.nan, floating(math.Copysign(math.NaN(), -1)))
		}
	}
}

// Without a width only the plus is to be seen.
func TestFormatFlagsWithoutWidth(t *testing.T) {
	for _, flags := range flagTexts(4) {
		plus := strings.Repeat("+", min(1, strings.Count(flags, "+")))
		wantFormat(t, "%"+flags+"d", plus+"7", whole(7))
		wantFormat(t, "%"+flags+"d", "-7", whole(-7))
		wantFormat(t, "%"+flags+"d", plus+"0", whole(0))
		wantFormat(t, "%"+flags+"x", "7", whole(7))
		wantFormat(t, "%"+flags+"g", plus+"0.5", floating(0.5))
		wantFormat(t, "%"+flags+"g", plus+"inf", floating(infinity))
		wantFormat(t, "%"+flags+"g", "nan", floating(math.NaN()))
		wantFormat(t, "%"+flags+".1f", plus+"0.5", floating(0.5))
	}
}

func TestFormatPlus(t *testing.T) {
	wantEach(t, "%+d", map[impl.Arg]string{{Num: 7}: "+7", {Num: -7}: "-7", {Num: 0}: "+0", {Num: math.MaxInt64}: "+9223372036854775807", {Num: math.MinInt64}: "-9223372036854775808"})
	wantEach(t, "%+x", map[impl.Arg]string{{Num: 7}: "7", {Num: -7}: "fffffffffffffff9", {Num: 0}: "0", {Num: math.MaxInt64}: "7fffffffffffffff", {Num: math.MinInt64}: "8000000000000000"})
	for _, c := range []struct {
		f               float64
		e, f6, f0, g, h string
	}{
		{0, "0.000000e0", "0.000000", "0", "0", "0x0p0"},
		{1.5, "1.500000e0", "1.500000", "2", "1.5", "0x3p-1"},
		// Rounded to a zero it keeps its sign.
		{1e-9, "1.000000e-9", "0.000000", "0", "1e-9", "0x112e0be826d695p-82"},
		{1e22, "1.000000e22", "10000000000000000000000.000000", "10000000000000000000000", "1e22", "0x878678326eac9p22"},
		{infinity, "inf", "inf", "inf", "inf", "inf"},
	} {
		for by, sign := range map[float64]string{1: "+", -1: "-"} {
			arg := floating(math.Copysign(c.f, by))
			wantFormat(t, "%+e", sign+c.e, arg)
			wantFormat(t, "%+f", sign+c.f6, arg)
			wantFormat(t, "%+.0f", sign+c.f0, arg)
			wantFormat(t, "%+g", sign+c.g, arg)
			wantFormat(t, "%+h", sign+c.h, arg)
		}
	}
	for _, letter := range []string{"e", "f", "g", "h", ".0e", ".0f"} {
		wantFormat(t, "%+"+letter, "nan", floating(math.NaN()))
	}
}

func TestFormatZerosBehindTheSign(t *testing.T) {
	wantFormat(t, "%05d", "00000", whole(0))
	wantFormat(t, "%05d", "-0042", whole(-42))
	wantFormat(t, "%+05d", "+0042", whole(42))
	wantFormat(t, "%05x", "0002a", whole(42))
	wantFormat(t, "%+05x", "0002a", whole(42))
	wantFormat(t, "%018x", "00ffffffffffffffff", whole(-1))
	wantFormat(t, "%+018x", "00ffffffffffffffff", whole(-1))
	wantFormat(t, "%08g", "0000.125", floating(0.125))
	wantFormat(t, "%08g", "-000.125", floating(-0.125))
	wantFormat(t, "%+08g", "+000.125", floating(0.125))
	wantFormat(t, "%08g", "00001e-7", floating(1e-7))
	wantFormat(t, "%05g", "-0000", floating(minusZero))
	wantFormat(t, "%05g", "00000", floating(0))
	wantFormat(t, "%+05g", "+0000", floating(0))
	wantFormat(t, "%08.2f", "-0002.50", floating(-2.5))
	wantFormat(t, "%08.2f", "-0000.00", floating(-0.001))
	wantFormat(t, "%+08.2f", "+0002.50", floating(2.5))
	wantFormat(t, "%010.2e", "-002.50e-3", floating(-0.0025))
	wantFormat(t, "%+010.2e", "+0002.50e3", floating(2500))
	// Ahead of the 0x too: that is no sign.
	wantFormat(t, "%010h", "00000x3p-1", floating(1.5))
	wantFormat(t, "%010h", "-0000x3p-1", floating(-1.5))
	wantFormat(t, "%+010h", "+0000x3p-1", floating(1.5))
	wantFormat(t, "%08h", "-000x0p0", floating(minusZero))
	for _, letter := range []string{"e", "f", "g", "h"} {
		wantFormat(t, "%06"+letter, "   inf", floating(infinity))
		wantFormat(t, "%06"+letter, "  -inf", floating(-infinity))
		wantFormat(t, "%06"+letter, "   nan", floating(math.NaN()))
		wantFormat(t, "%+06"+letter, "  +inf", floating(infinity))
		wantFormat(t, "%+06"+letter, "  -inf", floating(-infinity))
		wantFormat(t, "%0+6"+letter, "   nan", floating(math.NaN()))
		wantFormat(t, "%-06"+letter, "inf   ", floating(infinity))
		wantFormat(t, "%0-+6"+letter, "+inf  ", floating(infinity))
		wantFormat(t, "%0-6"+letter, "-inf  ", floating(-infinity))
		wantFormat(t, "%-+06"+letter, "nan   ", floating(math.NaN()))
	}
}

// shown are places without a width, each with an arg and what it writes.
func shown() []struct {
	letter, text string
	arg          impl.Arg
} {
	return []struct {
		letter, text string
		arg          impl.Arg
	}{
		{"d", "7", whole(7)}, {"d", "-1234", whole(-1234)}, {"d", "0", whole(0)}, {"d", "-9223372036854775808", whole(math.MinInt64)},
		{"x", "ff", whole(255)}, {"x", "ffffffffffffffff", whole(-1)}, {"x", "0", whole(0)},
		{"e", "1.200000e1", floating(12)}, {"e", "-1.200000e1", floating(-12)}, {".2e", "1.20e-5", floating(1.2e-5)}, {"e", "inf", floating(infinity)}, {"e", "nan", floating(math.NaN())},
		{"f", "12.000000", floating(12)}, {"f", "-12.000000", floating(-12)}, {".2f", "-0.00", floating(-0.001)}, {".0f", "-inf", floating(-infinity)}, {"f", "nan", floating(math.NaN())},
		{"g", "0.1", floating(0.1)}, {"g", "-1e100", floating(-1e100)}, {"g", "-0", floating(minusZero)}, {"g", "inf", floating(infinity)}, {"g", "nan", floating(math.NaN())},
		{"h", "0x3p-1", floating(1.5)}, {"h", "-0x3p-1", floating(-1.5)}, {"h", "0x0p0", floating(0)}, {"h", "-inf", floating(-infinity)}, {"h", "nan", floating(math.NaN())},
	}
}

// filled is a text with a sign or none, brought to a width by the flags, as the document says.
func filled(flags, text string, width int, letter byte) string {
	sign, size := "", text
	if strings.HasPrefix(text, "-") {
		sign, size = "-", text[1:]
	} else if strings.Contains(flags, "+") && letter != 'x' && text != "nan" {
		sign = "+"
	}
	switch {
	case strings.Contains(flags, "-"):
		return fmt.Sprintf("%-*s", width, sign+size)
	case strings.Contains(flags, "0") && size != "inf" && size != "nan":
		for len(sign)+len(size) < width {
			size = "0" + size
		}
		return sign + size
	}
	return fmt.Sprintf("%*s", width, sign+size)
}

func TestFormatWidth(t *testing.T) {
	for _, c := range shown() {
		letter := c.letter[len(c.letter)-1]
		for _, flags := range flagTexts(3) {
			bare := len(filled(flags, c.text, 0, letter))
			for _, width := range []int{0, 1, bare - 1, bare, bare + 1, bare + 2, 25, 99, 100, 399, 400} {
				digits := strconv.Itoa(width)
				if width == 0 {
					digits = ""
				}
				want := filled(flags, c.text, width, letter)
				if len(want) != max(bare, width) {
					t.Fatal(want, width)
				}
				wantFormat(t, "%"+flags+digits+c.letter, want, c.arg)
			}
		}
	}
}

func TestFormatWidthNamed(t *testing.T) {
	wantFormat(t, "%1d", "-42", whole(-42))
	wantFormat(t, "%2d", "-42", whole(-42))
	wantFormat(t, "%3d", "-42", whole(-42))
	wantFormat(t, "%4d", " -42", whole(-42))
	wantFormat(t, "%-3d", "-42", whole(-42))
	wantFormat(t, "%-4d", "-42 ", whole(-42))
	wantFormat(t, "%03d", "-42", whole(-42))
	wantFormat(t, "%04d", "-042", whole(-42))
	// The plus counts.
	wantFormat(t, "%+2d", "+42", whole(42))
	wantFormat(t, "%+3d", "+42", whole(42))
	wantFormat(t, "%+4d", " +42", whole(42))
	wantFormat(t, "%+04d", "+042", whole(42))
	wantFormat(t, "%3d", " 42", whole(42))
	wantFormat(t, "%400d", blanks(399)+"7", whole(7))
	wantFormat(t, "%-400d", "7"+blanks(399), whole(7))
	wantFormat(t, "%0400d", zeros(399)+"7", whole(7))
	wantFormat(t, "%+0400d", "+"+zeros(398)+"7", whole(7))
	wantFormat(t, "%0400x", zeros(384)+"ffffffffffffffff", whole(-1))
	wantFormat(t, "%400g", blanks(397)+"inf", floating(infinity))
	wantFormat(t, "%0400h", "-"+zeros(393)+"0x3p-1", floating(-1.5))
	wantFormat(t, "%400.400f", "1."+zeros(400), floating(1))
	wantFormat(t, "%400.399e", "1."+zeros(399)+"e0", floating(1))
}

func TestFormatWidthTooLarge(t *testing.T) {
	huge := []string{"401", "402", "410", "500", "999", "1000", "4000", "4001", "1400", "65536", "65541", "4294967296", "4294967301", "9223372036854775807", "9223372036854775808", "18446744073709551616", "18446744073709551621", "36893488147419103237", "1" + zeros(30), "1" + zeros(100) + "5", nines(300), "4" + nines(1000)}
	for _, width := range huge {
		for _, flags := range []string{"", "-", "0", "+", "000", "-0+"} {
			for _, behind := range []string{"d", "x", ".1f", "q", "", ".", ".401f", ".d"} {
				wantFault(t, "%"+flags+width+behind, 1+len(flags), whole(1))
				wantFault(t, "ab%%%"+flags+width+behind, 5+len(flags))
			}
			wantFault(t, "%"+flags+width+"g", 1+len(flags), floating(infinity))
		}
	}
	for _, width := range []string{"400", "399", "40", "41", "1", "9"} {
		if got := impl.Format("%"+width+"d", []impl.Arg{whole(1)}); !got.Ok || strconv.Itoa(len(got.Text)) != width {
			t.Errorf("width %s: %+v", width, got)
		}
	}
}

func TestFormatPrecision(t *testing.T) {
	for _, f := range []float64{0, minusZero, 1, -1, 0.1, 2.5, -2.5, 1.005, 123456.75, 1e21, 1e-9, 9.5, 99.96, least, -least, math.MaxFloat64, infinity, -infinity, math.NaN()} {
		for _, precision := range []int{0, 1, 2, 5, 6, 7, 16, 17, 100, 398, 399} {
			wantFormat(t, "%."+strconv.Itoa(precision)+"e", impl.Digits(f, precision+1), floating(f))
			wantFormat(t, "%."+strconv.Itoa(precision)+"f", impl.Fixed(f, precision), floating(f))
			for _, ahead := range []int{1, 2, 30} {
				wantFormat(t, "%."+zeros(ahead)+strconv.Itoa(precision)+"e", impl.Digits(f, precision+1), floating(f))
				wantFormat(t, "%."+zeros(ahead)+strconv.Itoa(precision)+"f", impl.Fixed(f, precision), floating(f))
			}
		}
		wantFormat(t, "%e", impl.Digits(f, 7), floating(f))
		wantFormat(t, "%f", impl.Fixed(f, 6), floating(f))
		wantFormat(t, "%.400f", impl.Fixed(f, 400), floating(f))
		wantFormat(t, "%.0400f", impl.Fixed(f, 400), floating(f))
		wantFormat(t, "%.0399e", impl.Digits(f, 400), floating(f))
		wantFault(t, "%.400e", 5, floating(f))
		wantFault(t, "%.000400e", 8, floating(f))
		wantFault(t, "%400.400e", 8, floating(f))
	}
	wantFormat(t, "%.0f %.0e", "2 2e0", floating(2.5), floating(2.5))
	wantFormat(t, "%.1f %.1e", "2.5 2.5e0", floating(2.5), floating(2.5))
	wantFormat(t, "%.2f %.3f", "1.00 1.005", floating(1.005), floating(1.005))
	wantFormat(t, "%f %e", "2.500000 2.500000e0", floating(2.5), floating(2.5))
	wantFormat(t, "%.400f", "1."+zeros(400), floating(1))
	wantFormat(t, "%.399e", "1."+zeros(399)+"e0", floating(1))
	wantFormat(t, "%.00f", "2", floating(2.5))
}

func TestFormatPrecisionTooLarge(t *testing.T) {
	huge := []string{"401", "402", "0401", "000401", "410", "999", "1000", "4000", "4001", "65536", "4294967296", "4294967298", "9223372036854775808", "18446744073709551616", "18446744073709551618", "36893488147419103234", "1" + zeros(30), zeros(500) + "1" + zeros(100) + "5", nines(300), "4" + nines(1000)}
	for _, precision := range huge {
		for _, ahead := range []string{"", "-", "0", "8", "-0+", "+400", "08"} {
			for _, behind := range []string{"f", "e", "g", "h", "d", "x", "q", "", "."} {
				wantFault(t, "%"+ahead+"."+precision+behind, 2+len(ahead), floating(1))
				wantFault(t, "%"+ahead+"."+precision+behind, 2+len(ahead), whole(1))
				wantFault(t, "a%%%"+ahead+"."+precision+behind, 5+len(ahead))
			}
		}
	}
}

func TestFormatPointWithoutDigits(t *testing.T) {
	for _, ahead := range []string{"", "-", "0", "+", "8", "-0+", "+400", "08"} {
		for _, behind := range []string{"f", "e", "g", "h", "d", "x", "q", "", ".", "..", ".1f", "-1f", "+1f", " 1f", "%", "*f", "af", "\x00", "/f", ":f"} {
			wantFault(t, "%"+ahead+"."+behind, 2+len(ahead), floating(1))
			wantFault(t, "%"+ahead+"."+behind, 2+len(ahead), whole(1))
			wantFault(t, "%"+ahead+"."+behind, 2+len(ahead))
			wantFault(t, "a%%%"+ahead+"."+behind, 5+len(ahead), floating(1), whole(1))
		}
	}
}

func TestFormatPrecisionThatDoesNotFit(t *testing.T) {
	for _, precision := range []string{"0", "1", "2", "6", "00", "016", "399", "400"} {
		for _, ahead := range []string{"", "-", "0", "8", "-0+400"} {
			at := len("%") + len(ahead) + len(".") + len(precision)
			for _, f := range []float64{1, 0, infinity, math.NaN()} {
				wantFault(t, "%"+ahead+"."+precision+"g", at, floating(f))
				wantFault(t, "%"+ahead+"."+precision+"h", at, floating(f))
			}
			wantFault(t, "%"+ahead+"."+precision+"d", at, whole(1))
			wantFault(t, "%"+ahead+"."+precision+"x", at, whole(1))
			wantFault(t, "%g%"+ahead+"."+precision+"d%%", 2+at, floating(1), whole(1))
		}
	}
}

// A place that ends with the pattern, wherever in it that is.
func TestFormatEndsInPlace(t *testing.T) {
	for _, place := range []string{"%", "%-", "%0", "%+", "%-0+", "%00", "%5", "%40", "%400", "%-5", "%05", "%5.", "%.", "%+.", "%.0", "%.6", "%.400", "%5.2", "%-0+400.399"} {
		for _, ahead := range []string{"", "ab", "%%", "%d", "%d%g"} {
			pattern := ahead + place
			wantFault(t, pattern, len(pattern), whole(1), floating(2))
			wantFault(t, pattern, len(pattern), whole(1), floating(2), whole(3))
			wantFault(t, pattern, len(pattern), whole(1), floating(2), floating(3), whole(4))
			if !strings.Contains(ahead, "d") {
				wantFault(t, pattern, len(pattern))
			}
		}
	}
}

func TestFormatEveryLetter(t *testing.T) {
	for c := range 256 {
		letter := string([]byte{byte(c)})
		fits := strings.Contains("dxefgh", letter)
		real := strings.Contains("efgh", letter)
		for _, ahead := range []string{"", "-", "+0", "7", "-7"} {
			pattern := "%" + ahead + letter
			at := 1 + len(ahead)
			switch {
			case pattern == "%%":
				continue
			case strings.Contains("-0+.", letter) && (letter == "." || !strings.HasSuffix(ahead, "7")), c >= '0' && c <= '9':
				// No letter, but more of the place, which then ends with the pattern.
				at++
			}
			for _, arg := range []impl.Arg{whole(1), floating(1)} {
				if fits && arg.Real == real {
					if got := impl.Format(pattern, []impl.Arg{arg}); !got.Ok {
						t.Errorf("%q: %+v", pattern, got)
					}
					continue
				}
				wantFault(t, pattern, at, arg)
				wantFault(t, "é%%"+pattern, 4+at, arg)
			}
			wantFault(t, pattern, at)
		}
		if !fits && !strings.Contains("-0+.%", letter) && (c < '0' || c > '9') {
			// Whatever comes behind it.
			wantFault(t, "%"+letter+"d", 1, whole(1))
			wantFault(t, "%5"+letter+"d", 2, whole(1))
			wantFault(t, "%5.2"+letter+"f", 4, floating(1))
		}
	}
	// Flags stand ahead of the width alone.
	for _, flag := range []string{"-", "+"} {
		wantFault(t, "%5"+flag+"d", 2, whole(1))
		wantFault(t, "%.5"+flag+"f", 3, floating(1))
		wantFault(t, "%5.5"+flag+"f", 4, floating(1))
	}
	wantFault(t, "%.2.2f", 3, floating(1))
	wantFault(t, "%5 d", 2, whole(1))
	wantFault(t, "% d", 1, whole(1))
	wantFault(t, "%*d", 1, whole(5), whole(1))
	wantFault(t, "%#x", 1, whole(1))
	wantFault(t, "%ld", 1, whole(1))
	wantFault(t, "%D", 1, whole(1))
	wantFault(t, "%X", 1, whole(1))
}

func TestFormatArgsLacking(t *testing.T) {
	for _, letter := range []string{"d", "x", "e", "f", "g", "h"} {
		wantFault(t, "%"+letter, 1)
		wantFault(t, "ab%-05"+letter+"cd", 6)
		wantFault(t, "%d%"+letter, 3, whole(1))
		wantFault(t, "%d%%%g,%+"+letter+"%d", 9, whole(1), floating(2))
	}
	wantFault(t, "%.3f", 3)
	wantFault(t, "%.3d", 3)
	wantFault(t, "%.400e", 5)
	wantFault(t, "%d %d %d", 7, whole(1), whole(2))
	wantFault(t, "%d %d %d", 4, whole(1))
	wantFault(t, "%d %d %d", 1)
}

func TestFormatArgsThatDoNotFit(t *testing.T) {
	for _, letter := range []string{"e", "f", "g", "h"} {
		for _, n := range []int64{0, 1, -1, math.MinInt64} {
			wantFault(t, "%"+letter, 1, whole(n))
			wantFault(t, "%"+letter, 1, impl.Arg{Num: n})
			wantFault(t, "%-08"+letter+"..", 4, whole(n))
		}
	}
	for _, letter := range []string{"d", "x"} {
		for _, f := range []float64{0, 1, -1, 0.5, infinity, math.NaN()} {
			wantFault(t, "%"+letter, 1, floating(f))
			wantFault(t, "%"+letter, 1, impl.Arg{Real: true, Flt: f})
			wantFault(t, "%+08"+letter+"..", 4, floating(f))
		}
	}
	wantFault(t, "%d%g", 1, floating(1), whole(1))
	wantFault(t, "%d%g", 3, whole(1), whole(1))
	wantFault(t, "%g%d", 3, floating(1), floating(1))
}

func TestFormatArgsLeft(t *testing.T) {
	wantFault(t, "x", 1, whole(1))
	wantFault(t, "abc", 3, floating(1))
	wantFault(t, "%%", 2, whole(1))
	wantFault(t, "%d", 2, whole(1), whole(2))
	wantFault(t, "%d", 2, whole(1), floating(2))
	wantFault(t, "%-5d|", 5, whole(1), whole(2), whole(3))
	wantFault(t, "%d%g.", 5, whole(1), floating(2), floating(3))
	wantFault(t, bytesOf(1200), 1200, whole(1))
	wantFault(t, bytesOf(1199), 1199, whole(1))
	wantFault(t, "é", 2, impl.Arg{})
}

// faulty are places with a fault, each with the arg that it would take.
func faulty() []struct {
	place string
	at    int
	arg   impl.Arg
} {
	return []struct {
		place string
		at    int
		arg   impl.Arg
	}{
		{"%401d", 1, whole(1)}, {"%-" + nines(25) + "g", 2, floating(1)}, {"%.401f", 2, floating(1)}, {"%5.0401e", 3, floating(1)}, {"%." + nines(25) + "f", 2, floating(1)},
		{"%.f", 2, floating(1)}, {"%+7.e", 4, floating(1)}, {"%q", 1, whole(1)}, {"%5-d", 2, whole(1)}, {"%.2.f", 3, floating(1)}, {"%0%", 2, whole(1)},
		{"%e", 1, whole(1)}, {"%f", 1, whole(1)}, {"%5g", 2, whole(1)}, {"%-h", 2, whole(1)}, {"%d", 1, floating(1)}, {"%05x", 3, floating(1)},
		{"%.1d", 3, whole(1)}, {"%.0x", 3, whole(1)}, {"%.2g", 3, floating(1)}, {"%8.3h", 4, floating(1)}, {"%.400e", 5, floating(1)},
	}
}

func TestFormatTwoFaults(t *testing.T) {
	for _, first := range faulty() {
		wantFault(t, first.place, first.at, first.arg)
		for _, ahead := range []string{"", "a", "%%", "\xff%%\x00"} {
			at := len(ahead) + first.at
			wantFault(t, ahead+first.place, at, first.arg)
			// Args left, an arg that lacks, and a place that ends with the pattern.
			wantFault(t, ahead+first.place+"b", at, first.arg, whole(1), floating(1))
			wantFault(t, ahead+first.place+"%d", at, first.arg)
			wantFault(t, ahead+first.place+"%", at, first.arg)
			wantFault(t, ahead+first.place+"%5.", at, first.arg, floating(1))
			wantFault(t, "%d"+ahead+first.place+"%q", 2+at, whole(1), first.arg)
			for _, second := range faulty() {
				wantFault(t, ahead+first.place+second.place, at, first.arg, second.arg)
				wantFault(t, ahead+first.place+"|"+second.place, at, first.arg, second.arg, whole(1))
			}
		}
		// None is there for it: the letter's own fault stands at the same byte, one ahead of it still counts.
		wantFault(t, first.place, first.at)
	}
	wantFault(t, "%d%q", 1)
	wantFault(t, "%q%d", 1)
	wantFault(t, "%d%401d", 1)
	wantFault(t, "%401d%d", 1)
	wantFault(t, "%d%d%.f", 3, whole(1))
}

func TestFormatTwoFaultsInOnePlace(t *testing.T) {
	for _, c := range []struct {
		pattern string
		at      int
	}{
		{"%401.401f", 1}, {"%401.f", 1}, {"%401.", 1}, {"%401", 1}, {"%401q", 1}, {"%401.1d", 1}, {"%401.400e", 1}, {"%401-d", 1}, {"%401%", 1}, {"%0401.401q", 2}, {"%-0+401.401", 4},
		{"%.401q", 2}, {"%.401", 2}, {"%.401d", 2}, {"%.401g", 2}, {"%.401.1f", 2}, {"%.401e", 2}, {"%5.401q", 3}, {"%-0+5.401q", 6}, {"%400.401x", 5},
		{"%.q", 2}, {"%.d", 2}, {"%.x", 2}, {"%.", 2}, {"%..", 2}, {"%5.q", 3}, {"%-5.g", 4}, {"%.%", 2},
		{"%.400q", 5}, {"%.1q", 3}, {"%.1", 3}, {"%400.400q", 8},
	} {
		for _, args := range [][]impl.Arg{nil, {whole(1)}, {floating(1)}, {whole(1), whole(2)}, {floating(1), floating(2)}} {
			wantFault(t, c.pattern, c.at, args...)
		}
	}
}

func TestFormatOfMaxText(t *testing.T) {
	wantFormat(t, bytesOf(1200), bytesOf(1200))
	wantFormat(t, strings.Repeat("\xff", 1200), strings.Repeat("\xff", 1200))
	wantFormat(t, strings.Repeat("%%", 600), strings.Repeat("%", 600))
	wantFormat(t, bytesOf(1198)+"%%", bytesOf(1198)+"%")
	wantFormat(t, bytesOf(1198)+"%d", bytesOf(1198)+"-7", whole(-7))
	wantFormat(t, "%d"+bytesOf(1198), "-7"+bytesOf(1198), whole(-7))
	wantFormat(t, "%"+zeros(1198)+"d", "7", whole(7))
	wantFormat(t, "%"+zeros(1197)+"5d", "00007", whole(7))
	wantFormat(t, "%"+strings.Repeat("+", 1198)+"d", "+7", whole(7))
	wantFormat(t, "%"+strings.Repeat("-", 1195)+"400d", "7"+blanks(399), whole(7))
	wantFormat(t, "%."+zeros(1196)+"1f", "2.5", floating(2.5))
	wantFormat(t, "%."+zeros(1195)+"39e", "2.5"+zeros(38)+"e0", floating(2.5))
	// What is written may be longer.
	wantFormat(t, strings.Repeat("%0400d", 200), strings.Repeat(zeros(399)+"7", 200), slices.Repeat([]impl.Arg{whole(7)}, 200)...)
	wantFormat(t, strings.Repeat("%g", 600), strings.Repeat("-0.5", 600), slices.Repeat([]impl.Arg{floating(-0.5)}, 600)...)
	wantFault(t, strings.Repeat("%g", 600), 1199, slices.Repeat([]impl.Arg{floating(-0.5)}, 599)...)
	wantFault(t, strings.Repeat("%g", 600), 1200, slices.Repeat([]impl.Arg{floating(-0.5)}, 601)...)
	wantFault(t, bytesOf(1199)+"%", 1200)
	wantFault(t, bytesOf(1198)+"%q", 1199, whole(7))
	wantFault(t, bytesOf(1198)+"%d", 1199)
	wantFault(t, bytesOf(1195)+"%401d", 1196, whole(7))
	wantFault(t, bytesOf(1197)+"%.f", 1199, floating(7))
	wantFault(t, "%"+nines(1198)+"d", 1, whole(7))
	wantFault(t, "%."+nines(1197)+"f", 2, floating(7))
	if impl.MaxText != 1200 {
		t.Error("MaxText", impl.MaxText)
	}
}

func TestFormatTooLong(t *testing.T) {
	for _, length := range []int{1201, 1202, 1203, 2000, 2400, 100000} {
		wantFault(t, bytesOf(length), 1200)
		wantFault(t, bytesOf(length), 1200, whole(1))
		wantFault(t, strings.Repeat("\x00", length), 1200)
		wantFault(t, strings.Repeat("%", length), 1200)
		wantFault(t, bytesOf(length-2)+"%%", 1200)
		wantFault(t, bytesOf(length-2)+"%d", 1200, whole(1))
		wantFault(t, "%d"+bytesOf(length-2), 1200, whole(1))
		wantFault(t, "%d"+bytesOf(length-2), 1200, whole(1), whole(2))
		wantFault(t, "%"+strings.Repeat("-", length-2)+"d", 1200, whole(1))
		wantFault(t, "%"+zeros(length-2)+"d", 1200, whole(1))
		wantFault(t, "%."+zeros(length-4)+"1f", 1200, floating(1))
		wantFault(t, strings.Repeat("%g", (length+1)/2), 1200, slices.Repeat([]impl.Arg{floating(1)}, (length+1)/2)...)
	}
}

// Of the length and another fault the first in the order of the pattern counts too.
func TestFormatTooLongWithOtherFaults(t *testing.T) {
	for _, one := range faulty() {
		wantFault(t, one.place+bytesOf(1200), one.at, one.arg)
		wantFault(t, "a%%"+one.place+bytesOf(1200), 3+one.at, one.arg, whole(1))
		wantFault(t, bytesOf(1199-one.at)+one.place+bytesOf(10), 1199, one.arg)
		wantFault(t, bytesOf(1200-one.at)+one.place+bytesOf(10), 1200, one.arg)
		wantFault(t, bytesOf(1201-one.at)+one.place+bytesOf(10), 1200, one.arg)
		wantFault(t, bytesOf(1200)+one.place, 1200, one.arg)
		wantFault(t, bytesOf(1201)+one.place, 1200, one.arg)
		wantFault(t, bytesOf(5000)+one.place, 1200, one.arg)
	}
	wantFault(t, "%d"+bytesOf(1200), 1)
	wantFault(t, bytesOf(1198)+"%da", 1199)
	wantFault(t, bytesOf(1199)+"%d", 1200)
	wantFault(t, bytesOf(1200)+"%d", 1200)
	wantFault(t, bytesOf(1200)+"%", 1200)
	wantFault(t, bytesOf(1201)+"%", 1200)
	wantFault(t, bytesOf(1199)+"%-", 1200, whole(1))
	wantFault(t, bytesOf(1199)+"%.", 1200, whole(1))
	wantFault(t, bytesOf(1198)+"%5.", 1200, whole(1))
	// A width or a precision that begins ahead of MaxText is told there, though it goes on behind.
	wantFault(t, bytesOf(1197)+"%401d", 1198, whole(1))
	wantFault(t, bytesOf(1198)+"%401d", 1199, whole(1))
	wantFault(t, bytesOf(1199)+"%401d", 1200, whole(1))
	wantFault(t, bytesOf(1196)+"%.401f", 1198, floating(1))
	wantFault(t, bytesOf(1197)+"%.401f", 1199, floating(1))
	wantFault(t, bytesOf(1198)+"%.401f", 1200, floating(1))
	wantFault(t, "%"+nines(5000)+"d", 1, whole(1))
	wantFault(t, "%."+nines(5000)+"f", 2, floating(1))
}

var placeText = regexp.MustCompile(`^%([-0+]*)([1-9][0-9]*)?(\.([0-9]*))?`)

// formatWith gathers all faults of a pattern, and then takes the first.
func formatWith(pattern string, args []impl.Arg) impl.Formatted {
	var faults []int
	if len(pattern) > 1200 {
		faults = append(faults, 1200)
	}
	text, used := "", 0
	for at := 0; at < len(pattern); {
		rest := pattern[at:]
		if rest[0] != '%' {
			text += rest[:1]
			at++
			continue
		}
		if strings.HasPrefix(rest, "%%") {
			text += "%"
			at += 2
			continue
		}
		found := placeText.FindStringSubmatchIndex(rest)
		part := func(i int) string { return rest[max(0, found[2*i]):max(0, found[2*i+1])] }
		if !smallCount(part(2)) {
			faults = append(faults, at+found[4])
		}
		if found[6] >= 0 && (part(4) == "" || !smallCount(part(4))) {
			faults = append(faults, at+found[8])
		}
		end := at + found[1]
		if end == len(pattern) || used == len(args) {
			faults = append(faults, end)
			break
		}
		written, ok := letterWith(pattern[end], part(4), found[6] >= 0, args[used])
		if !ok {
			faults = append(faults, end)
		}
		width, _ := strconv.Atoi(part(2))
		if len(faults) == 0 {
			text += filled(part(1), written, width, pattern[end])
		}
		used++
		at = end + 1
	}
	if used < len(args) {
		faults = append(faults, len(pattern))
	}
	if len(faults) > 0 {
		return impl.Formatted{At: slices.Min(faults)}
	}
	return impl.Formatted{Ok: true, Text: text}
}

func smallCount(digits string) bool {
	kept := strings.TrimLeft(digits, "0")
	return len(kept) < 3 || len(kept) == 3 && kept <= "400"
}

// letterWith is what the library writes, in the document's forms.
func letterWith(letter byte, digits string, precise bool, arg impl.Arg) (text string, ok bool) {
	precision := 6
	if precise {
		precision, _ = strconv.Atoi(digits)
	}
	f := arg.Flt
	switch {
	case arg.Real != strings.ContainsRune("efgh", rune(letter)), !strings.ContainsRune("dxefgh", rune(letter)):
		return "", false
	case precise && letter != 'e' && letter != 'f', letter == 'e' && precision > 399:
		return "", false
	case letter == 'd':
		return fmt.Sprint(arg.Num), true
	case letter == 'x':
		return fmt.Sprintf("%x", uint64(arg.Num)), true
	case math.IsNaN(f):
		return "nan", true
	case math.IsInf(f, 0):
		return strings.TrimPrefix(strings.ToLower(fmt.Sprint(f)), "+"), true
	case letter == 'e':
		digits, power, _ := strings.Cut(strconv.FormatFloat(f, 'e', precision, 64), "e")
		x, _ := strconv.Atoi(power)
		return digits + "e" + strconv.Itoa(x), true
	case letter == 'f':
		return strconv.FormatFloat(f, 'f', precision, 64), true
	case letter == 'g':
		return shortestLibrary(f), true
	}
	parts := partsWith(f)
	sign := strings.Repeat("-", strings.Count(fmt.Sprint(parts.Neg), "true"))
	return fmt.Sprintf("%s0x%xp%d", sign, parts.Mant, parts.Exp), true
}

func wantAsWith(t *testing.T, pattern string, args []impl.Arg) {
	t.Helper()
	if got, want := impl.Format(pattern, args), formatWith(pattern, args); got != want {
		t.Errorf("Format(%q, %v) = %+v, want %+v", pattern, args, got, want)
	}
}

// All short patterns of some bytes, with args of both kinds, too few and too many.
func TestFormatShortPatterns(t *testing.T) {
	argLists := [][]impl.Arg{nil, {whole(-7)}, {floating(7.25)}, {whole(7), floating(-0.5)}, {floating(infinity), whole(-1)}}
	patterns := []string{""}
	for first, length := 0, 1; length <= 5; length++ {
		end := len(patterns)
		for _, pattern := range patterns[first:end] {
			for _, next := range "%-0+4.dea" {
				patterns = append(patterns, pattern+string(next))
			}
		}
		first = end
	}
	for _, pattern := range patterns {
		for _, args := range argLists {
			wantAsWith(t, pattern, args)
		}
		if t.Failed() {
			return
		}
	}
}

func pick[T any](random *rand.Rand, of []T) T { return of[random.IntN(len(of))] }

// randomPlace is a place and the arg that its letter takes; now and then there is a fault in it.
func randomPlace(random *rand.Rand, ints []int64, floats []float64) (string, impl.Arg) {
	place := "%"
	for random.IntN(2) == 0 {
		place += pick(random, []string{"-", "0", "+"})
	}
	place += pick(random, []string{"", "", "1", "3", "8", "12", "30", "100", "400"})
	letter := pick(random, []string{"d", "x", "e", "f", "g", "h"})
	if letter == "e" || letter == "f" {
		place += pick(random, []string{"", ".0", ".1", ".02", ".6", ".17", ".40", ".399"})
	}
	switch random.IntN(60) {
	case 0:
		place += pick(random, []string{".400", ".401", ".", ".5", "401", "-", "0", " ", "%"})
	case 1:
		letter = pick(random, []string{"q", "", "%", "D", "\x00", "\xff", "d", "g"})
	}
	arg := whole(pick(random, ints))
	if strings.Contains("efgh", letter) != (random.IntN(60) == 0) {
		arg = floating(pick(random, floats))
	}
	return place + letter, arg
}

func TestFormatEverywhere(t *testing.T) {
	random := rand.New(rand.NewPCG(6, 6))
	ints, floats := sampleInts(), append(sampleFloats(), sizes()...)
	good := 0
	for range 20000 {
		pattern := ""
		var args []impl.Arg
		for range random.IntN(6) {
			place, arg := randomPlace(random, ints, floats)
			pattern += pick(random, []string{"", "", " ", "%%", "a", "\xe2\x82", ": "}) + place
			args = append(args, arg)
		}
		switch random.IntN(40) {
		case 0:
			args = append(args, whole(1))
		case 1:
			args = args[:max(0, len(args)-1)]
		case 2:
			pattern += strings.Repeat(pick(random, []string{"a", "%%", "%d"}), 1200-random.IntN(700))
		}
		wantAsWith(t, pattern, args)
		if impl.Format(pattern, args).Ok {
			good++
		}
	}
	if good < 8000 || good > 19000 {
		t.Error(good, "of 20000 patterns are good ones")
	}
}

// Whatever is asked, a place with a width has that many bytes or more.
func TestFormatWidthIsReached(t *testing.T) {
	random := rand.New(rand.NewPCG(66, 66))
	ints, floats := sampleInts(), sampleFloats()
	for range 4000 {
		width := 1 + random.IntN(400)
		flags := pick(random, flagTexts(3))
		letter := pick(random, []string{"d", "x", "e", "f", "g", "h", ".3e", ".0f"})
		arg := whole(pick(random, ints))
		if letter != "d" && letter != "x" {
			arg = floating(pick(random, floats))
		}
		got := impl.Format("%"+flags+strconv.Itoa(width)+letter, []impl.Arg{arg})
		bare := impl.Format("%"+flags+letter, []impl.Arg{arg})
		if !got.Ok || !bare.Ok || len(got.Text) != max(width, len(bare.Text)) {
			t.Errorf("flags %q, width %d, letter %s of %v: %+v", flags, width, letter, arg, got)
		}
	}
}

func TestFormatSameAgain(t *testing.T) {
	random := rand.New(rand.NewPCG(67, 67))
	ints, floats := sampleInts(), sampleFloats()
	for range 2000 {
		pattern := ""
		// Room behind the args shows a write behind their end, too.
		room := make([]impl.Arg, 8)
		count := random.IntN(6)
		for i := range room {
			place, arg := randomPlace(random, ints, floats)
			if i < count {
				pattern += place
			}
			room[i] = arg
		}
		args, kept, text := room[:count], slices.Clone(room), strings.Clone(pattern)
		first := impl.Format(pattern, args)
		impl.Format("%+08d%g", []impl.Arg{whole(3), floating(0.1)})
		if again := impl.Format(pattern, args); first != again {
			t.Errorf("Format(%q, %v) = %+v, then %+v", pattern, args, first, again)
		}
		if pattern != text || !slices.EqualFunc(room, kept, sameArg) {
			t.Errorf("Format(%q) left %q, %v of %v", text, pattern, room, kept)
		}
	}
}

func sameArg(a, b impl.Arg) bool {
	return a.Real == b.Real && a.Num == b.Num && math.Float64bits(a.Flt) == math.Float64bits(b.Flt)
}
