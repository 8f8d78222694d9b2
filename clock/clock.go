// Package clock formats and parses points in time and durations (layer 1): see shared/doc/01-clock.md.
package clock

import (
	"samaritan/api"
	"strconv"
	"strings"
)

const (
	second int64 = 1
	minute       = 60 * second
	hour         = 60 * minute
	day          = 24 * hour
)

// never is the text of api.Infinite, both as a time and as a duration.
const never = "never"

// unit is a unit in which durations are written.
type unit struct {
	letter  string
	seconds int64
}

// units are in the order in which a duration is written.
var units = [3]unit{{"h", hour}, {"m", minute}, {"s", second}}

// Add returns t + d, and at most api.Infinite.
func Add(t, d int64) int64 {
	t, d = clamp(t), clamp(d)
	// Comparing with the rest avoids the sum of two infinite arguments, which would overflow.
	if d > api.Infinite-t {
		return api.Infinite
	}
	return t + d
}

// Elapsed returns now - then, or 0 if then is later than now.
func Elapsed(now, then int64) int64 {
	return clamp(clamp(now) - clamp(then))
}

// Format formats a time, as in "2d 03:04:05".
func Format(t int64) string {
	t = clamp(t)
	if t == api.Infinite {
		return never
	}
	days := strconv.FormatInt(t/day, 10)
	return days + "d " + twoDigits(t%day/hour) + ":" + twoDigits(t%hour/minute) + ":" + twoDigits(t%minute)
}

// Parse parses a time formatted by Format.
func Parse(s string) (int64, api.Errno) {
	t := readTime(s)
	// The fields were read loosely: the comparison refuses whatever Format does not write.
	if Format(t) != s {
		return 0, api.ErrSyntax
	}
	return t, api.OK
}

// FormatDuration formats a duration, as in "1h 2m 3s".
func FormatDuration(d int64) string {
	d = clamp(d)
	if d == api.Infinite {
		return never
	}
	if d == 0 {
		return "0s"
	}
	var parts []string
	for _, u := range units {
		if n := d / u.seconds; n > 0 {
			parts = append(parts, strconv.FormatInt(n, 10)+u.letter)
		}
		d %= u.seconds
	}
	return strings.Join(parts, " ")
}

// ParseDuration parses a duration formatted by FormatDuration.
func ParseDuration(s string) (int64, api.Errno) {
	d := readDuration(s)
	// The components were read loosely: the comparison refuses whatever FormatDuration does not write.
	if FormatDuration(d) != s {
		return 0, api.ErrSyntax
	}
	return d, api.OK
}

// clamp returns the time or duration that an argument counts as.
func clamp(n int64) int64 {
	return min(max(n, 0), api.Infinite)
}

// twoDigits writes a number less than 100.
func twoDigits(n int64) string {
	if n < 10 {
		return "0" + strconv.FormatInt(n, 10)
	}
	return strconv.FormatInt(n, 10)
}

// readTime returns the time whose format is s; if there is none, it may return any time.
func readTime(s string) int64 {
	if s == never {
		return api.Infinite
	}
	days, rest, _ := strings.Cut(s, "d ")
	hours, rest, _ := strings.Cut(rest, ":")
	minutes, seconds, _ := strings.Cut(rest, ":")
	return clamp(number(days)*day + number(hours)*hour + number(minutes)*minute + number(seconds))
}

// readDuration returns the duration whose format is s; if there is none, it may return any duration.
func readDuration(s string) int64 {
	if s == never {
		return api.Infinite
	}
	d := int64(0)
	for rest := s; rest != ""; {
		var part string
		part, rest, _ = strings.Cut(rest, " ")
		d = Add(d, readComponent(part))
	}
	return d
}

// readComponent returns the seconds of one component of a duration, such as "2m"; for anything else it may return any number.
func readComponent(part string) int64 {
	for _, u := range units {
		if digits, ok := strings.CutSuffix(part, u.letter); ok {
			return number(digits) * u.seconds
		}
	}
	return 0
}

// number reads a decimal number; for anything else it may return any number.
func number(digits string) int64 {
	// The error can be ignored because the callers compare what they have read with its format.
	n, _ := strconv.ParseInt(digits, 10, 64)
	return n
}
