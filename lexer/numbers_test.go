package lexer

import (
	"math"
	"math/big"
	"strconv"
	"strings"
	"testing"

	"stagepost/api"
)

func TestNumbers(t *testing.T) {
	cuts(t, "0", num(0))
	cuts(t, "00", num(0))
	cuts(t, "7", num(7))
	cuts(t, "007", num(7))
	cuts(t, "10", num(10))
	cuts(t, "0100", num(100))
	cuts(t, "1234567890", num(1234567890))
	cuts(t, "1 2", num(1), at(2, num(2)))
	cuts(t, "-5", sign("-"), at(1, num(5)))
	cuts(t, "1.5", num(1), at(1, sign(".")), at(2, num(5)))
	cuts(t, "1e5", num(1), at(1, word("e5")))
	cuts(t, "0x1F", num(0), at(1, word("x1f")))
	cuts(t, "1_000", num(1), at(1, word("_000")))
}

func TestNumbersOfUpToTwoToThe63(t *testing.T) {
	cuts(t, "9223372036854775807", num(math.MaxInt64))
	cuts(t, "9223372036854775808", num(1<<63))
	for _, s := range []string{
		"9223372036854775809", "9223372036854775810", "9223372036854775818", "9223372036854775900", "9223372036854776000", "9300000000000000000", "9999999999999999999", "10000000000000000000",
		"18446744073709551615", "18446744073709551616", "18446744073709551617", "27670116110564327424", "36893488147419103232", "92233720368547758080", "92233720368547758070", "99999999999999999999",
		"100000000000000000000", "184467440737095516160", "340282366920938463463374607431768211456",
	} {
		faults(t, api.ErrNumber, 0, s)
		faults(t, api.ErrNumber, 2, "a "+s+" b")
		faults(t, api.ErrNumber, 0, s+"a")
	}
}

// TestLeadingZerosMeanNothing, however many there are.
func TestLeadingZerosMeanNothing(t *testing.T) {
	for _, zeros := range []int{1, 2, 18, 19, 20, 21, 1000, 60000} {
		ahead := strings.Repeat("0", zeros)
		cuts(t, ahead, num(0))
		cuts(t, ahead+"1", num(1))
		cuts(t, ahead+"9223372036854775808", num(1<<63))
		cuts(t, ahead+"1 2", num(1), at(zeros+2, num(2)))
		faults(t, api.ErrNumber, 0, ahead+"9223372036854775809")
		faults(t, api.ErrNumber, 0, ahead+"18446744073709551616")
	}
}

// TestNumbersOfManyDigits: those that would wrap round to a number that may be, too.
func TestNumbersOfManyDigits(t *testing.T) {
	for n := 1; n <= 65536; n += 1 + n/3 {
		for _, digit := range []string{"1", "5", "9"} {
			s := strings.Repeat(digit, n)
			if n <= 18 || n == 19 && digit != "9" {
				x, _ := strconv.ParseUint(s, 10, 64)
				cuts(t, s, num(x))
			} else {
				faults(t, api.ErrNumber, 0, s)
			}
		}
	}
	wraps := new(big.Int).Lsh(big.NewInt(1), 64)
	for range 20 {
		faults(t, api.ErrNumber, 0, wraps.String())
		faults(t, api.ErrNumber, 0, new(big.Int).Add(wraps, big.NewInt(5)).String())
		wraps.Lsh(wraps, 3)
	}
	faults(t, api.ErrNumber, 0, "1"+strings.Repeat("0", 64))
	faults(t, api.ErrNumber, 0, "1"+strings.Repeat("0", 65535))
}

// TestNumbersRoundTheGreatest: just those above it are refused.
func TestNumbersRoundTheGreatest(t *testing.T) {
	for _, about := range []uint64{0, 10, 1 << 32, 922337203685477580, 1000000000000000000, 1 << 63} {
		for d := -25; d <= 25; d++ {
			x := about + uint64(d)
			switch {
			case x > 1<<63+1000: // below 0
			case x > 1<<63:
				faults(t, api.ErrNumber, 0, strconv.FormatUint(x, 10))
			default:
				cuts(t, strconv.FormatUint(x, 10), num(x))
			}
		}
	}
}

func TestEachDigit(t *testing.T) {
	for i := range uint64(10) {
		s := digits[i : i+1]
		cuts(t, s, num(i))
		cuts(t, s+s, num(11*i))
		cuts(t, "1"+s+"1", num(101+10*i))
	}
}
