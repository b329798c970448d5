package impl

const MaxText = 1200

const (
	leastBase    = 2
	greatestBase = 36
	wordBits     = 64
	signBit      = uint64(1) << (wordBits - 1)
)

// Why there is no number, least first: where two hold, the lesser is told.
const (
	codeArgument = 1
	codeText     = 2
	codeRange    = 3
)

// Below no base, so that what is no digit is refused as a digit that is too great for the base.
const noDigit = greatestBase

var digitBytes = [greatestBase]byte{
	0: '0', 1: '1', 2: '2', 3: '3', 4: '4', 5: '5', 6: '6', 7: '7', 8: '8', 9: '9',
	10: 'a', 11: 'b', 12: 'c', 13: 'd', 14: 'e', 15: 'f', 16: 'g', 17: 'h', 18: 'i',
	19: 'j', 20: 'k', 21: 'l', 22: 'm', 23: 'n', 24: 'o', 25: 'p', 26: 'q', 27: 'r',
	28: 's', 29: 't', 30: 'u', 31: 'v', 32: 'w', 33: 'x', 34: 'y', 35: 'z',
}

// Whole is a whole number, or why there is none.
type Whole struct {
	Code int
	Num  int64
}

// Divided is a quotient and what is left.
type Divided struct {
	Code int
	Quot int64
	Rest int64
}

// ReadInt is the number that a text tells in a base.
func ReadInt(text string, base int) Whole {
	if !isBase(base) || len(text) > MaxText {
		return Whole{Code: codeArgument}
	}
	neg, digits := cutSign(text)
	// The least int's size is one more than the greatest's.
	limit := signBit - 1
	if neg {
		limit = signBit
	}
	size, code := readSize(digits, uint64(base), limit)
	if code != 0 {
		return Whole{Code: code}
	}
	if neg {
		size = -size
	}
	return Whole{Num: int64(size)}
}

// WriteInt is the text of a number in a base.
func WriteInt(n int64, base int) string {
	if !isBase(base) {
		return ""
	}
	if n < 0 {
		// Without a sign the least int has a size too; with one it has none.
		return "-" + writeSize(-uint64(n), uint64(base))
	}
	return writeSize(uint64(n), uint64(base))
}

// WriteBits is the text of a number's 64 bits, taken without a sign, in a base.
func WriteBits(n int64, base int) string {
	if !isBase(base) {
		return ""
	}
	return writeSize(uint64(n), uint64(base))
}

// Divide is the quotient rounded down, and what is left.
func Divide(a, b int64) Divided {
	if b == 0 {
		return Divided{Code: codeArgument}
	}
	quot, rest := a/b, a%b
	// Go's quotient is cut towards zero, so its rest has a's sign.
	if rest != 0 && (rest < 0) != (b < 0) {
		quot--
		rest += b
	}
	return Divided{Quot: quot, Rest: rest}
}

// Shift is a number's bits moved to the left, or to the right by less than 0.
func Shift(n int64, by int) int64 {
	// Both ends are asked ahead of the change of sign, which the least int does not bear.
	if by >= wordBits || by <= -wordBits {
		return 0
	}
	if by < 0 {
		return int64(uint64(n) >> uint(-by))
	}
	return int64(uint64(n) << uint(by))
}

func isBase(base int) bool {
	return base >= leastBase && base <= greatestBase
}

func cutSign(text string) (neg bool, rest string) {
	if text == "" || text[0] != '-' && text[0] != '+' {
		return false, text
	}
	return text[0] == '-', text[1:]
}

// readSize goes on behind a number that is too great, since a wrong digit there is told ahead of that.
func readSize(digits string, base, limit uint64) (size uint64, code int) {
	if digits == "" {
		return 0, codeText
	}
	for i := range len(digits) {
		digit := digitValue(digits[i])
		if digit >= base {
			return 0, codeText
		}
		// Asked ahead of the product, which might wrap to a number that fits.
		if code != 0 || size > (limit-digit)/base {
			size, code = 0, codeRange
			continue
		}
		size = size*base + digit
	}
	return size, code
}

func digitValue(c byte) uint64 {
	switch {
	case c >= '0' && c <= '9':
		return uint64(c - '0')
	case c >= 'a' && c <= 'z':
		return uint64(c-'a') + 10
	}
	return noDigit
}

func writeSize(size, base uint64) string {
	var digits [wordBits]byte
	first := len(digits) - 1
	digits[first] = digitBytes[size%base]
	for size /= base; size > 0; size /= base {
		first--
		digits[first] = digitBytes[size%base]
	}
	return string(digits[first:])
}
