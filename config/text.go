package config

import (
	"samaritan/api"
	"strconv"
	"strings"
)

// kindNames are the names of the kinds of units, from kind 1 on.
var kindNames = [4]string{"basic", "doctor", "car", "air"}

// never is the text of the time Infinite.
const never = "never"

// maxDigits keeps every number within an int64; the only greater one that a configuration can have, Infinite, is a word.
const maxDigits = 18

// The names of the lines that are not those of parameters.
const (
	centresLine = "centres"
	nodeLine    = "node"
	edgeLine    = "edge"
	unitLine    = "unit"
	planLine    = "plan"
)

// The places of the lines, in the order of the text.
const (
	nowhere = iota // the place of a line without a form
	centresPlace
	nodePlace
	edgePlace
	unitPlace
	planPlace
	firstParameterPlace // each parameter has a place of its own
)

// Format returns the text of a configuration.
func Format(c api.Config) (string, api.Errno) {
	if Validate(c) != 0 {
		return "", api.ErrInvalid
	}
	text := appendLine(nil, centresLine, numeral(c.Centres))
	for _, d := range c.Districts {
		text = appendLine(text, nodeLine, numeral(d))
	}
	for _, e := range c.Edges {
		text = appendLine(text, edgeLine, numeral(e.From), numeral(e.To), travelTime(e.Time))
	}
	for _, u := range c.Units {
		text = appendLine(text, unitLine, kindName(u.Kind), numeral(u.Home), numeral(u.Node))
	}
	for _, p := range c.Plans {
		text = appendLine(text, planWords(p)...)
	}
	standard := Default()
	for _, p := range parameters() {
		if n := p.get(c); n != p.get(standard) {
			text = appendLine(text, p.name, numeral(n))
		}
	}
	if len(text) > api.MaxText {
		return "", api.ErrTooMany
	}
	return string(text), api.OK
}

// Parse returns the configuration with the given text, or the line number of an error.
func Parse(s string) (api.Config, int, api.Errno) {
	if len(s) > api.MaxText {
		return api.Config{}, 0, api.ErrTooMany
	}
	c, lines, ok := readLines(s)
	if !ok {
		return api.Config{}, lines, api.ErrSyntax
	}
	// The lines were judged by their words alone: the comparison refuses what is invalid, and parameters that have their default.
	if text, e := Format(c); e != api.OK || text != s {
		return api.Config{}, lines, api.ErrSyntax
	}
	return c, 0, api.OK
}

// appendLine adds a line to a text.
func appendLine(text []byte, words ...string) []byte {
	text = append(text, strings.Join(words, " ")...)
	return append(text, '\n')
}

func planWords(p api.ResponsePlan) []string {
	words := []string{planLine, p.Code, numeral(p.Urgency)}
	for _, k := range p.Kinds {
		words = append(words, kindName(k))
	}
	return words
}

func numeral[N int | int64](n N) string { return strconv.FormatInt(int64(n), 10) }

func kindName(kind int) string { return kindNames[kind-1] }

func travelTime(n int64) string {
	if n == api.Infinite {
		return never
	}
	return numeral(n)
}

// readLines returns the configuration that the lines of s describe, which may be invalid, and their number.
// If a line cannot be where it is, it returns false and the number of that line.
func readLines(s string) (c api.Config, lines int, ok bool) {
	c = Default()
	last := nowhere
	for s != "" {
		line, rest, ended := strings.Cut(s, "\n")
		lines++
		place := readLine(&c, line)
		if !ended || !mayFollow(place, last) {
			return api.Config{}, lines, false
		}
		last, s = place, rest
	}
	return c, lines, true
}

// mayFollow reports whether a line with this place may come after one with the place last, or first if last is nowhere.
func mayFollow(place, last int) bool {
	switch {
	case last == nowhere:
		return place == centresPlace
	case place == last:
		return centresPlace < place && place < firstParameterPlace
	}
	return place > last
}

// readLine adds what a line says to c, and returns the place of the line.
func readLine(c *api.Config, line string) int {
	w := words{rest: strings.Split(line, " ")}
	place := readWords(c, &w)
	if w.wrong || len(w.rest) > 0 {
		return nowhere
	}
	return place
}

// readWords adds what the words of a line say to c, and returns the place that the first word determines.
func readWords(c *api.Config, w *words) int {
	name := w.next()
	switch name {
	case centresLine:
		c.Centres = int(w.number())
		return centresPlace
	case nodeLine:
		c.Districts = append(c.Districts, int(w.number()))
		return nodePlace
	case edgeLine:
		c.Edges = append(c.Edges, api.Edge{From: int(w.number()), To: int(w.number()), Time: w.time()})
		return edgePlace
	case unitLine:
		c.Units = append(c.Units, api.UnitConfig{Kind: w.kind(), Home: int(w.number()), Node: int(w.number())})
		return unitPlace
	case planLine:
		c.Plans = append(c.Plans, api.ResponsePlan{Code: w.code(), Urgency: int(w.number()), Kinds: w.kinds()})
		return planPlace
	}
	for i, p := range parameters() {
		if p.name == name {
			p.set(c, w.number())
			return firstParameterPlace + i
		}
	}
	return nowhere
}

// words are the words of a line that have not been read yet.
type words struct {
	rest  []string
	wrong bool // a word is not what was to be read, or is missing
}

// next removes and returns the next word. If there is none it returns the empty word, which the other methods refuse.
func (w *words) next() string {
	if len(w.rest) == 0 {
		return ""
	}
	word := w.rest[0]
	w.rest = w.rest[1:]
	return word
}

func (w *words) number() int64 { return w.numberOf(w.next()) }

func (w *words) numberOf(word string) int64 {
	// The error can be ignored because the word is compared with the numeral of what was read.
	n, _ := strconv.ParseInt(word, 10, 64)
	if n < 0 || len(word) > maxDigits || numeral(n) != word {
		w.wrong = true
		return 0
	}
	return n
}

func (w *words) time() int64 {
	word := w.next()
	if word == never {
		return api.Infinite
	}
	return w.numberOf(word)
}

func (w *words) code() string {
	word := w.next()
	if !isCode(word) {
		w.wrong = true
		return ""
	}
	return word
}

func (w *words) kind() int {
	word := w.next()
	for i, name := range kindNames {
		if name == word {
			return i + 1
		}
	}
	w.wrong = true
	return 0
}

// kinds reads the rest of the words, and at least one.
func (w *words) kinds() []int {
	l := []int{w.kind()}
	for len(w.rest) > 0 {
		l = append(l, w.kind())
	}
	return l
}
