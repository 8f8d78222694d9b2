package clock

import (
	"math"
	"math/big"
	"regexp"
	"testing"

	"samaritan/api"
)

const inf = api.Infinite

// edges are arguments around the limits that the chapter names, in ascending order.
var edges = []int64{
	math.MinInt64, math.MinInt64 + 1, -inf, -86400, -1,
	0, 1, 9, 10, 59, 60, 61, 3599, 3600, 3601, 3660, 7200, 86399, 86400, 86401, 90061, 183845, 864000,
	api.MaxTick, inf / 2, inf/2 + 1, inf - 86400, inf - 3600, inf - 2, inf - 1,
	inf, inf + 1, math.MaxInt64 - 1, math.MaxInt64,
}

// counted is the number that the chapter says an argument counts as.
func counted(n int64) int64 {
	if n < 0 {
		return 0
	}
	if n > inf {
		return inf
	}
	return n
}

// samples returns the edges that count as themselves, and numbers of every magnitude.
func samples() []int64 {
	var l []int64
	for _, n := range edges {
		if counted(n) == n {
			l = append(l, n)
		}
	}
	x := uint64(1)
	for i := range 2000 {
		x = x*6364136223846793005 + 1442695040888963407
		l = append(l, int64(x>>(2+i%62)))
	}
	return l
}

// P1.1: sums and differences, with clamped arguments and results.
func TestAddAndElapsed(t *testing.T) {
	for _, x := range []struct{ a, b, sum, elapsed int64 }{
		{0, 0, 0, 0},
		{5, 3, 8, 2},
		{3, 5, 8, 0},
		{7, 7, 14, 0},
		{-9, 4, 4, 0},
		{4, -9, 4, 4},
		{-1, -1, 0, 0},
		{math.MinInt64, math.MinInt64, 0, 0},
		{math.MinInt64, math.MaxInt64, inf, 0},
		{math.MaxInt64, math.MinInt64, inf, inf},
		{inf, 0, inf, inf},
		{0, inf, inf, 0},
		{inf, inf, inf, 0},
		{inf, 1, inf, inf - 1},
		{1, inf, inf, 0},
		{inf + 5, inf, inf, 0},
		{inf, inf + 5, inf, 0},
		{inf + 5, 2, inf, inf - 2},
		{inf - 1, 1, inf, inf - 2},
		{inf - 2, 1, inf - 1, inf - 3},
		{inf / 2, inf / 2, inf, 0},
		{inf / 2, inf/2 - 1, inf - 1, 1},
		{math.MaxInt64, math.MaxInt64, inf, 0},
	} {
		if got := Add(x.a, x.b); got != x.sum {
			t.Errorf("Add(%d, %d) = %d, want %d", x.a, x.b, got, x.sum)
		}
		if got := Elapsed(x.a, x.b); got != x.elapsed {
			t.Errorf("Elapsed(%d, %d) = %d, want %d", x.a, x.b, got, x.elapsed)
		}
	}
}

// P1.1: all pairs of edges, against integers that cannot overflow.
func TestAddAndElapsedOfEdges(t *testing.T) {
	clip := func(n *big.Int) int64 {
		if n.Sign() < 0 {
			return 0
		}
		if n.Cmp(big.NewInt(inf)) > 0 {
			return inf
		}
		return n.Int64()
	}
	for _, a := range edges {
		for _, b := range edges {
			x, y := big.NewInt(counted(a)), big.NewInt(counted(b))
			if got, want := Add(a, b), clip(new(big.Int).Add(x, y)); got != want {
				t.Errorf("Add(%d, %d) = %d, want %d", a, b, got, want)
			}
			if got, want := Elapsed(a, b), clip(new(big.Int).Sub(x, y)); got != want {
				t.Errorf("Elapsed(%d, %d) = %d, want %d", a, b, got, want)
			}
		}
	}
}

// P1.2: times and their texts, in both directions.
func TestFormatAndParse(t *testing.T) {
	for _, x := range []struct {
		time int64
		text string
	}{
		{0, "0d 00:00:00"},
		{1, "0d 00:00:01"},
		{9, "0d 00:00:09"},
		{10, "0d 00:00:10"},
		{59, "0d 00:00:59"},
		{60, "0d 00:01:00"},
		{3599, "0d 00:59:59"},
		{3600, "0d 01:00:00"},
		{36000, "0d 10:00:00"},
		{86399, "0d 23:59:59"},
		{86400, "1d 00:00:00"},
		{183845, "2d 03:04:05"},
		{864000, "10d 00:00:00"},
		{8640000 + 45296, "100d 12:34:56"},
		{api.MaxTick, "12725829d 00:36:16"},
		{inf - 1, "53375995583650d 07:45:03"},
		{inf, "never"},
	} {
		if got := Format(x.time); got != x.text {
			t.Errorf("Format(%d) = %q, want %q", x.time, got, x.text)
		}
		if got, e := Parse(x.text); got != x.time || e != api.OK {
			t.Errorf("Parse(%q) = %d, %d, want %d, OK", x.text, got, e, x.time)
		}
	}
}

// P1.3: durations and their texts, in both directions.
func TestFormatDurationAndParseDuration(t *testing.T) {
	for _, x := range []struct {
		duration int64
		text     string
	}{
		{0, "0s"},
		{1, "1s"},
		{10, "10s"},
		{59, "59s"},
		{60, "1m"},
		{61, "1m 1s"},
		{600, "10m"},
		{3540, "59m"},
		{3599, "59m 59s"},
		{3600, "1h"},
		{3601, "1h 1s"},
		{3660, "1h 1m"},
		{3723, "1h 2m 3s"},
		{7200, "2h"},
		{86400, "24h"},
		{90000, "25h"},
		{360000, "100h"},
		{inf - 1, "1281023894007607h 45m 3s"},
		{inf, "never"},
	} {
		if got := FormatDuration(x.duration); got != x.text {
			t.Errorf("FormatDuration(%d) = %q, want %q", x.duration, got, x.text)
		}
		if got, e := ParseDuration(x.text); got != x.duration || e != api.OK {
			t.Errorf("ParseDuration(%q) = %d, %d, want %d, OK", x.text, got, e, x.duration)
		}
	}
}

// P1.2 and P1.3: arguments out of range are formatted as what they count as.
func TestFormatsClamp(t *testing.T) {
	for _, n := range edges {
		if got, want := Format(n), Format(counted(n)); got != want {
			t.Errorf("Format(%d) = %q, want %q", n, got, want)
		}
		if got, want := FormatDuration(n), FormatDuration(counted(n)); got != want {
			t.Errorf("FormatDuration(%d) = %q, want %q", n, got, want)
		}
	}
	for _, n := range []int64{-1, math.MinInt64} {
		if Format(n) != "0d 00:00:00" || FormatDuration(n) != "0s" {
			t.Errorf("%d is formatted as %q and %q", n, Format(n), FormatDuration(n))
		}
	}
	for _, n := range []int64{inf + 1, math.MaxInt64} {
		if Format(n) != "never" || FormatDuration(n) != "never" {
			t.Errorf("%d is formatted as %q and %q", n, Format(n), FormatDuration(n))
		}
	}
}

// P1.2: strings that are not the format of a time.
func TestParseRefuses(t *testing.T) {
	for _, s := range []string{
		"", " ", "0", "d", "0d", "0d ", "d 00:00:00", " 00:00:00", "00:00:00", "0d00:00:00", "0 00:00:00",
		"0d 0:00:00", "0d 00:0:00", "0d 00:00:0", "0d 000:00:00", "0d 00:000:00", "0d 00:00:000",
		"0d 00:00", "0d 00:00:", "0d 00:00:00:00", "0d 00-00-00", "0d ::",
		"00d 00:00:00", "01d 00:00:00", "+1d 00:00:00", "-1d 00:00:00", "-0d 00:00:00", "1_0d 00:00:00", "0x1d 00:00:00",
		"0d +1:00:00", "0d -1:00:00", "0d 01:-1:00", "0d 00:+1:00", "0d 00:01:-1", "1d -1:00:00",
		"0d 24:00:00", "0d 00:60:00", "0d 00:00:60", "0d 99:99:99",
		"0d  00:00:00", " 0d 00:00:00", "0d 00:00:00 ", "0d 00:00:00\n", "0d\t00:00:00", "0D 00:00:00", "0d 00:00:00x", "0d 00:00:00\x00",
		"٠d 00:00:00", "１d 00:00:00", "0d\u00a000:00:00", "\xff",
		"Never", "NEVER", "never ", " never", "neve", "nevers", "never 0d 00:00:00", "infinite",
		"1h", "0s", "1d",
		"53375995583650d 07:45:04", "53375995583650d 07:45:05", "53375995583650d 08:00:00", "53375995583651d 00:00:00", "106751991167300d 15:30:07",
		"106751991167300d 15:30:08", "213503982334601d 07:00:16", "9223372036854775807d 00:00:00", "9223372036854775808d 00:00:00", "99999999999999999999d 00:00:00",
	} {
		if n, e := Parse(s); n != 0 || e != api.ErrSyntax {
			t.Errorf("Parse(%q) = %d, %d, want 0, ErrSyntax", s, n, e)
		}
	}
}

// P1.3: strings that are not the format of a duration.
func TestParseDurationRefuses(t *testing.T) {
	for _, s := range []string{
		"", " ", "0", "1", "h", "m", "s", "1d", "1x", "1 h", "0d 00:00:01",
		"0h", "0m", "0h 0m 0s", "1h 0m", "1h 0s", "1m 0s", "0h 1s", "0m 1s", "0s 0s",
		"60s", "61s", "60m", "1h 60m", "1m 60s", "1h 60s",
		"01h", "01m", "01s", "00s", "1h 01s", "1h 02m 3s",
		"1m 1h", "1s 1m", "1s 1h", "1h 1h", "1m 1m", "1s 1s", "1h 1m 1s 1s",
		"1h1m", "1h  1m", " 1h", "1h ", "1h 1m ", "1h\t1m", "1h\n", "1h,1m", "1H", "1M", "1S", "1sx", "1hm",
		"+1s", "-1s", "-0s", "1h -1s", "1_0s", "0x1s", "1.5h", "1e2s", "١s", "１s", "\xff",
		"Never", "NEVER", "never ", " never", "neve", "nevers", "never never",
		"1281023894007607h 45m 4s", "1281023894007607h 45m 5s", "1281023894007607h 46m", "1281023894007608h", "2562047788015215h 30m 7s",
		"2562047788015215h 30m 8s", "5124095576030431h 16s", "9223372036854775807h", "9223372036854775808h", "99999999999999999999h",
	} {
		if n, e := ParseDuration(s); n != 0 || e != api.ErrSyntax {
			t.Errorf("ParseDuration(%q) = %d, %d, want 0, ErrSyntax", s, n, e)
		}
	}
}

var (
	timeForm = regexp.MustCompile(`\A(0|[1-9][0-9]*)d ([01][0-9]|2[0-3]):([0-5][0-9]):([0-5][0-9])\z`)
	// Each component ends with a space here, so that the separators need no cases of their own.
	durationForm = regexp.MustCompile(`\A(?:([1-9][0-9]*)h )?(?:([1-9]|[1-5][0-9])m )?(?:([1-9]|[1-5][0-9])s )?\z`)
)

// weigh adds up the numbers in fields, each multiplied by its weight; empty fields count as 0.
func weigh(fields []string, weights ...int64) (int64, api.Errno) {
	sum := new(big.Int)
	for i, w := range weights {
		if fields[i] == "" {
			continue
		}
		n, ok := new(big.Int).SetString(fields[i], 10)
		if !ok {
			return 0, api.ErrSyntax
		}
		sum.Add(sum, n.Mul(n, big.NewInt(w)))
	}
	if sum.Cmp(big.NewInt(inf)) >= 0 {
		return 0, api.ErrSyntax
	}
	return sum.Int64(), api.OK
}

// expectTime is Parse, written from the grammar of the format.
func expectTime(s string) (int64, api.Errno) {
	if s == "never" {
		return inf, api.OK
	}
	m := timeForm.FindStringSubmatch(s)
	if m == nil {
		return 0, api.ErrSyntax
	}
	return weigh(m[1:], 86400, 3600, 60, 1)
}

// expectDuration is ParseDuration, written from the grammar of the format.
func expectDuration(s string) (int64, api.Errno) {
	switch s {
	case "never":
		return inf, api.OK
	case "0s":
		return 0, api.OK
	}
	m := durationForm.FindStringSubmatch(s + " ")
	if m == nil {
		return 0, api.ErrSyntax
	}
	return weigh(m[1:], 3600, 60, 1)
}

// neighbors returns the strings that differ from s in one byte: removed, replaced or inserted.
func neighbors(s string) []string {
	l := []string{s}
	for i := range len(s) + 1 {
		if i < len(s) {
			l = append(l, s[:i]+s[i+1:], s[:i]+s[i:i+1]+s[i:])
		}
		for _, c := range "0123456789dhms :+-_n\x00" {
			l = append(l, s[:i]+string(c)+s[i:])
			if i < len(s) {
				l = append(l, s[:i]+string(c)+s[i+1:])
			}
		}
	}
	return l
}

// P1.2 and P1.3: both parsers accept exactly the grammar, among strings that are nearly formats.
func TestParsersAcceptExactlyTheFormats(t *testing.T) {
	for _, n := range edges {
		for _, s := range append(neighbors(Format(n)), neighbors(FormatDuration(n))...) {
			n, e := Parse(s)
			if want, we := expectTime(s); n != want || e != we {
				t.Errorf("Parse(%q) = %d, %d, want %d, %d", s, n, e, want, we)
			}
			n, e = ParseDuration(s)
			if want, we := expectDuration(s); n != want || e != we {
				t.Errorf("ParseDuration(%q) = %d, %d, want %d, %d", s, n, e, want, we)
			}
		}
	}
}

// P1.2, P1.3 and T7: the parsers invert the formats of numbers of every magnitude.
func TestParsersInvertFormats(t *testing.T) {
	for _, n := range samples() {
		if got, e := Parse(Format(n)); got != n || e != api.OK {
			t.Errorf("Parse(%q) = %d, %d, want %d, OK", Format(n), got, e, n)
		}
		if got, e := expectTime(Format(n)); got != n || e != api.OK {
			t.Errorf("Format(%d) = %q is not in the grammar", n, Format(n))
		}
		if got, e := ParseDuration(FormatDuration(n)); got != n || e != api.OK {
			t.Errorf("ParseDuration(%q) = %d, %d, want %d, OK", FormatDuration(n), got, e, n)
		}
		if got, e := expectDuration(FormatDuration(n)); got != n || e != api.OK {
			t.Errorf("FormatDuration(%d) = %q is not in the grammar", n, FormatDuration(n))
		}
	}
}

// P1.4: Add is commutative, associative and monotonic; the edges are in ascending order.
func TestAddIsOrderly(t *testing.T) {
	for i, a := range edges {
		for _, b := range edges {
			if Add(a, b) != Add(b, a) {
				t.Errorf("Add(%d, %d) is not Add(%d, %d)", a, b, b, a)
			}
			if i > 0 && Add(edges[i-1], b) > Add(a, b) {
				t.Errorf("Add(%d, %d) is greater than Add(%d, %d)", edges[i-1], b, a, b)
			}
			for _, c := range edges {
				if Add(Add(a, b), c) != Add(a, Add(b, c)) {
					t.Errorf("Add of %d, %d and %d depends on the order", a, b, c)
				}
			}
		}
	}
}

// P1.4: Elapsed inverts Add unless the sum is Infinite.
func TestElapsedInvertsAdd(t *testing.T) {
	for _, a := range edges {
		for _, b := range edges {
			sum := Add(a, b)
			if sum == inf {
				continue
			}
			if Elapsed(sum, a) != counted(b) || Elapsed(sum, b) != counted(a) {
				t.Errorf("Elapsed does not invert Add(%d, %d)", a, b)
			}
		}
	}
}

// P1.4: distinct times have distinct formats, and so have distinct durations.
func TestFormatsAreDistinct(t *testing.T) {
	numbers := samples()
	for n := range int64(2 * 86400) {
		numbers = append(numbers, n)
	}
	times, durations := map[string]int64{}, map[string]int64{}
	for _, n := range numbers {
		if other, ok := times[Format(n)]; ok && other != n {
			t.Errorf("%d and %d have the format %q", n, other, Format(n))
		}
		if other, ok := durations[FormatDuration(n)]; ok && other != n {
			t.Errorf("%d and %d have the format %q", n, other, FormatDuration(n))
		}
		times[Format(n)], durations[FormatDuration(n)] = n, n
	}
}
