package config

import (
	"fmt"
	"math/rand"
	"reflect"
	"regexp"
	"strconv"
	"strings"
	"testing"

	"samaritan/api"
)

// slowFormat is the text format as the chapter describes it, for configurations that are valid.
func slowFormat(c api.Config) string {
	var b strings.Builder
	fmt.Fprintf(&b, "centres %d\n", c.Centres)
	for _, d := range c.Districts {
		fmt.Fprintf(&b, "node %d\n", d)
	}
	for _, e := range c.Edges {
		if e.Time == 1<<62 {
			fmt.Fprintf(&b, "edge %d %d never\n", e.From, e.To)
		} else {
			fmt.Fprintf(&b, "edge %d %d %d\n", e.From, e.To, e.Time)
		}
	}
	for _, u := range c.Units {
		fmt.Fprintf(&b, "unit %s %d %d\n", slowKind(u.Kind), u.Home, u.Node)
	}
	for _, p := range c.Plans {
		fmt.Fprintf(&b, "plan %s %d", p.Code, p.Urgency)
		for _, k := range p.Kinds {
			fmt.Fprintf(&b, " %s", slowKind(k))
		}
		fmt.Fprintf(&b, "\n")
	}
	for _, s := range settings {
		if n := setting(c, s.field); n != s.standard {
			fmt.Fprintf(&b, "%s %d\n", s.name, n)
		}
	}
	return b.String()
}

func slowKind(k int) string {
	switch k {
	case api.KindBasic:
		return "basic"
	case api.KindDoctor:
		return "doctor"
	case api.KindCar:
		return "car"
	}
	return "air"
}

// form is a form of a line, with the letter that stands for its place in the order of the lines.
type form struct {
	line   *regexp.Regexp
	letter string
}

// forms returns the forms of the lines, and the order of the letters in a text.
func forms() ([]form, *regexp.Regexp) {
	const number, kind = `(0|[1-9][0-9]{0,17})`, `(basic|doctor|car|air)`
	var l []form
	add := func(letter string, words ...string) {
		l = append(l, form{regexp.MustCompile(`\A` + strings.Join(words, " ") + `\z`), letter})
	}
	add("C", "centres", number)
	add("N", "node", number)
	add("E", "edge", number, number, `(`+number+`|never)`)
	add("U", "unit", kind, number, number)
	add("P", "plan", `[\x21-\x7e]{1,40}`, number, kind+`( `+kind+`)*`)
	order := `CN*E*U*P*`
	for i, s := range settings {
		letter := string(rune('a' + i))
		add(letter, s.name, number)
		order += letter + "?"
	}
	return l, regexp.MustCompile(`\A` + order + `\z`)
}

// slowParse is Parse as the chapter describes it.
type slowParse struct {
	forms []form
	order *regexp.Regexp
}

func newSlowParse() *slowParse {
	l, order := forms()
	return &slowParse{l, order}
}

func (p *slowParse) letter(line string) string {
	for _, f := range p.forms {
		if f.line.MatchString(line) {
			return f.letter
		}
	}
	return "?"
}

// parse returns what Parse is to return.
func (p *slowParse) parse(s string) (api.Config, int, api.Errno) {
	if len(s) > 65536 {
		return api.Config{}, 0, api.ErrTooMany
	}
	letters := ""
	lines := strings.SplitAfter(s, "\n")
	for i, line := range lines {
		if i == len(lines)-1 && line == "" {
			break
		}
		letters += p.letter(strings.TrimSuffix(line, "\n"))
		// Every part of the order but its first line may be missing, so a line is in place if the lines up to it are in order.
		if !strings.HasSuffix(line, "\n") || !p.order.MatchString(letters) {
			return api.Config{}, i + 1, api.ErrSyntax
		}
	}
	c := Default()
	for line := range strings.Lines(s) {
		slowRead(&c, strings.Fields(line))
	}
	if Validate(c) != 0 || slowFormat(c) != s {
		return api.Config{}, len(letters), api.ErrSyntax
	}
	return c, 0, api.OK
}

// slowRead adds a line that has one of the forms to a configuration.
func slowRead(c *api.Config, words []string) {
	number := func(i int) int64 {
		n, err := strconv.ParseInt(words[i], 10, 64)
		if err != nil {
			return api.Infinite
		}
		return n
	}
	kinds := map[string]int{"basic": 1, "doctor": 2, "car": 3, "air": 4}
	switch words[0] {
	case "centres":
		c.Centres = int(number(1))
	case "node":
		c.Districts = append(c.Districts, int(number(1)))
	case "edge":
		c.Edges = append(c.Edges, api.Edge{From: int(number(1)), To: int(number(2)), Time: number(3)})
	case "unit":
		c.Units = append(c.Units, api.UnitConfig{Kind: kinds[words[1]], Home: int(number(2)), Node: int(number(3))})
	case "plan":
		p := api.ResponsePlan{Code: words[1], Urgency: int(number(2))}
		for _, k := range words[3:] {
			p.Kinds = append(p.Kinds, kinds[k])
		}
		c.Plans = append(c.Plans, p)
	}
	for _, s := range settings {
		if s.name == words[0] {
			set(c, s.field, number(1))
		}
	}
}

// same checks Parse against the slow one.
func (p *slowParse) same(t *testing.T, s string) {
	t.Helper()
	got, line, e := Parse(s)
	want, wantLine, wantE := p.parse(s)
	if line != wantLine || e != wantE || !reflect.DeepEqual(got, want) {
		t.Errorf("Parse(%.300q) = %+v, %d, %d; want %+v, %d, %d", s, got, line, e, want, wantLine, wantE)
	}
}

// refused checks that Parse returns an error and a line number, and nothing else.
func refused(t *testing.T, s string, want int, wantE api.Errno) {
	t.Helper()
	c, line, e := Parse(s)
	if line != want || e != wantE {
		t.Errorf("Parse(%.300q) returns %d and error %d, want %d and %d", s, line, e, want, wantE)
	}
	if !reflect.ValueOf(c).IsZero() {
		t.Errorf("Parse(%.300q) returns an error and a configuration: %+v", s, c)
	}
}

// restored checks that Format and Parse are inverse to each other for a valid configuration.
func restored(t *testing.T, c api.Config) {
	t.Helper()
	text, e := Format(c)
	if e != api.OK || text != slowFormat(c) {
		t.Fatalf("Format(%+v) = %q, %d, want %q", c, text, e, slowFormat(c))
	}
	d, line, e := Parse(text)
	if e != api.OK || line != 0 || !Equal(c, d) {
		t.Fatalf("Parse(%q) = %+v, %d, %d", text, d, line, e)
	}
}

// random returns a valid configuration whose numbers are often the limits of their ranges.
func random(r *rand.Rand) api.Config {
	c := Default()
	c.Centres = 1 + r.Intn(9)
	for range 1 + r.Intn(8) {
		c.Districts = append(c.Districts, r.Intn(c.Centres))
	}
	node := func() int { return r.Intn(len(c.Districts)) }
	times := []int64{1, 2, 10, api.MaxTravelTime - 1, api.MaxTravelTime, api.Infinite}
	for range r.Intn(6) {
		c.Edges = append(c.Edges, api.Edge{From: node(), To: node(), Time: times[r.Intn(len(times))]})
	}
	for range r.Intn(6) {
		c.Units = append(c.Units, api.UnitConfig{Kind: 1 + r.Intn(4), Home: r.Intn(c.Centres), Node: node()})
	}
	for i := range r.Intn(6) {
		code := make([]byte, 1+r.Intn(40))
		for j := range code {
			code[j] = byte(0x21 + r.Intn(0x7F-0x21))
		}
		p := api.ResponsePlan{Code: string(code), Urgency: 1 + i%5}
		for range 1 + r.Intn(8) {
			p.Kinds = append(p.Kinds, 1+r.Intn(4))
		}
		c.Plans = append(c.Plans, p)
	}
	for _, s := range settings {
		values := []int64{s.least, s.least + 1, s.standard, s.standard, s.standard + 1, s.greatest - 1, s.greatest}
		set(&c, s.field, values[r.Intn(len(values))])
	}
	return c
}

// The example of the chapter.
func TestExample(t *testing.T) {
	const text = "centres 1\nnode 0\n"
	c, line, e := Parse(text)
	want := Default()
	want.Centres, want.Districts = 1, []int{0}
	if !Equal(c, want) || line != 0 || e != api.OK {
		t.Errorf("Parse = %+v, %d, %d", c, line, e)
	}
	if s, e := Format(want); s != text || e != api.OK {
		t.Errorf("Format = %q, %d", s, e)
	}
	refused(t, text+"beat 2\n", 3, api.ErrSyntax)
}

// everything is the text of the country with parameters other than the default.
const everything = `centres 3
node 0
node 2
node 1
node 0
node 2
edge 0 4 1
edge 4 0 never
edge 2 2 1048576
unit basic 0 4
unit doctor 2 0
unit car 1 3
unit air 0 1
plan arrest 1 doctor basic basic
plan arrest 5 car
plan never 1 air doctor
beat 1
patience 3
election 1048576
lease 5
silence 6
again 7
near 0
window 1099511627776
reserve 0
room 4096
`

// P6.1: the text has the lines of every list, in the order of the chapter.
func TestFormat(t *testing.T) {
	c := country()
	for i, n := range []int64{1, 3, 1 << 20, 5, 6, 7, 0, 1 << 40, 0, 4096} {
		set(&c, settings[i].field, n)
	}
	if s, e := Format(c); s != everything || e != api.OK {
		t.Errorf("Format = %s, %d", s, e)
	}
	if d, line, e := Parse(everything); !Equal(c, d) || line != 0 || e != api.OK {
		t.Errorf("Parse = %+v, %d, %d", d, line, e)
	}
}

// P6.1: a parameter has a line if and only if it differs from the default.
func TestFormatParameters(t *testing.T) {
	base, _ := Format(country())
	for _, s := range settings {
		for _, n := range []int64{s.least, s.standard - 1, s.standard, s.standard + 1, s.greatest} {
			want := base
			if n != s.standard {
				want += fmt.Sprintf("%s %d\n", s.name, n)
			}
			c := edited(func(c *api.Config) { set(c, s.field, n) })
			if got, e := Format(c); got != want || e != api.OK {
				t.Errorf("%s = %d: Format = %q, %d", s.field, n, got, e)
			}
			restored(t, c)
		}
	}
}

// P6.1: Format refuses every problem, also if the text would be too long.
func TestFormatInvalid(t *testing.T) {
	for number, l := range problems() {
		for i, change := range l {
			short := edited(change)
			long := edited(func(c *api.Config) { longEdges(c, 16000); change(c) })
			for _, c := range []api.Config{short, long} {
				if s, e := Format(c); s != "" || e != api.ErrInvalid {
					t.Errorf("change %d of problem %d: Format = %.50q, %d", i, number, s, e)
				}
			}
		}
	}
}

// longEdges adds edges whose lines have eleven bytes each.
func longEdges(c *api.Config, n int) {
	for range n {
		c.Edges = append(c.Edges, api.Edge{From: 0, To: 0, Time: 1})
	}
}

// ofLength returns a configuration whose text has 65536 + extra bytes.
func ofLength(extra int) api.Config {
	c := Default()
	c.Centres, c.Districts = 1, []int{0}
	c.Plans = []api.ResponsePlan{{Code: "x", Urgency: 1, Kinds: []int{1}}}
	left := 65536 + extra - len(slowFormat(c))
	longEdges(&c, left/11)
	// The code takes the rest.
	c.Plans[0].Code += strings.Repeat("x", left%11)
	return c
}

// P6.1: the greatest length of a text is MaxText.
func TestFormatLength(t *testing.T) {
	for extra := -15; extra <= 0; extra++ {
		c := ofLength(extra)
		if s, e := Format(c); len(s) != 65536+extra || e != api.OK {
			t.Errorf("%d: Format returns %d bytes and error %d", extra, len(s), e)
		}
		restored(t, c)
	}
	for extra := 1; extra <= 15; extra++ {
		c := ofLength(extra)
		if s, e := Format(c); s != "" || e != api.ErrTooMany {
			t.Errorf("%d: Format returns %d bytes and error %d", extra, len(s), e)
		}
		refused(t, slowFormat(c), 0, api.ErrTooMany)
	}
	c := country()
	longEdges(&c, 16384-len(c.Edges))
	if s, e := Format(c); s != "" || e != api.ErrTooMany {
		t.Errorf("Format returns %d bytes and error %d", len(s), e)
	}
}

// P6.1: a text of more than MaxText bytes is refused as such, whatever is in it.
func TestParseLength(t *testing.T) {
	refused(t, strings.Repeat("\n", 65536), 1, api.ErrSyntax)
	refused(t, strings.Repeat("\n", 65537), 0, api.ErrTooMany)
	refused(t, strings.Repeat("x", 65536), 1, api.ErrSyntax)
	refused(t, strings.Repeat("x", 65537), 0, api.ErrTooMany)
	refused(t, "centres 1\n"+strings.Repeat("node 0\n", 9360), 9361, api.ErrSyntax)
	refused(t, "centres 1\n"+strings.Repeat("node 0\n", 9362), 0, api.ErrTooMany)
	refused(t, "plan x 1"+strings.Repeat(" car", 20000), 0, api.ErrTooMany)
}

// P6.1: the line number is that of the first line that is malformed, not ended, or out of place.
func TestParseLines(t *testing.T) {
	const head, tail = "centres 2\nnode 0\nnode 1\n", "edge 0 1 5\nunit car 1 0\nplan x 1 car\nbeat 3\npatience 11\nroom 9\n"
	for _, line := range []string{
		"", " ", "x", "node", "node ", "node 0 ", " node 0", "node  0", "node\t0", "node 0\r", "node 0 0", "Node 0", "nodes 0", "node x", "node -1", "node +1",
		"node -0", "node 00", "node 01", "node 1_0", "node 0x1", "node 1.0", "node 1e1", "node \xd9\xa1", "node never", "node 1000000000000000000",
		"node 9223372036854775807", "node 9223372036854775808", "node 99999999999999999999", "node\x000", "node,0", "# node 0",
		"centres", "centres x", "centres 1 1", "centres 01",
		"edge", "edge 0", "edge 0 1", "edge 0 1 5 5", "edge 0 1 Never", "edge 0 1 -1", "edge 0 1 05", "edge never 1 5", "edge 0 never 5",
		"edge 0 1 4611686018427387904", "edge 0 1 never never", "edge 0 1 ", "edge  1 5",
		"unit", "unit car", "unit car 1", "unit car 1 0 0", "unit 3 1 0", "unit Car 1 0", "unit cars 1 0", "unit 1 0", "unit  1 0", "unit car never 0", "unit car 0 00",
		"unit truck 1 0", "unit car car 0",
		"plan", "plan x", "plan x 1", "plan x 1 ", "plan x 1 car ", "plan x 1 cars", "plan x 1 3", "plan x car", "plan 1 car", "plan x y 1 car", "plan  1 car",
		"plan x 01 car", "plan x -1 car", "plan x 1 car  car", "plan \x7f 1 car", "plan \x1f 1 car", "plan \xff 1 car", "plan \u00e9 1 car", "plan x\x00 1 car",
		"plan " + strings.Repeat("x", 41) + " 1 car",
		"beat", "beat ", "beat x", "beat 1 1", "beat 01", "beat never", "Beat 1", "beats 1", "heartbeat 1", "HeartbeatInterval 1", "near -1", "window 1000000000000000000",
	} {
		refused(t, line+"\n", 1, api.ErrSyntax)
		refused(t, line+"\n"+head+tail, 1, api.ErrSyntax)
		refused(t, head+line+"\n", 4, api.ErrSyntax)
		refused(t, head+line+"\n"+tail, 4, api.ErrSyntax)
		refused(t, head+tail+line+"\n", 10, api.ErrSyntax)
		if line != "" {
			refused(t, head+tail+line, 10, api.ErrSyntax)
		}
	}
}

// P6.1: a last line without a line feed is reported, unless an earlier line is.
func TestParseEnds(t *testing.T) {
	refused(t, "", 0, api.ErrSyntax)
	refused(t, "\n", 1, api.ErrSyntax)
	refused(t, "centres 1", 1, api.ErrSyntax)
	refused(t, "centres 1\nnode 0", 2, api.ErrSyntax)
	refused(t, "centres 1\nnode 0\n\n", 3, api.ErrSyntax)
	refused(t, "\ncentres 1\nnode 0\n", 1, api.ErrSyntax)
	refused(t, "centres 1\r\nnode 0\r\n", 1, api.ErrSyntax)
	refused(t, "centres 1\nnode x\nnode 0", 2, api.ErrSyntax)
	refused(t, "\ufeffcentres 1\nnode 0\n", 1, api.ErrSyntax)
	for n := range len(everything) {
		s := everything[:n]
		if n > 0 && s[n-1] != '\n' {
			refused(t, s, 1+strings.Count(s, "\n"), api.ErrSyntax)
		}
	}
}

// P6.1: lines are in the order of the chapter; centres come once, and so does every parameter.
func TestParseOrder(t *testing.T) {
	lines := []string{"centres 1", "node 0", "edge 0 0 1", "unit air 0 0", "plan x 1 air"}
	for _, s := range settings {
		lines = append(lines, fmt.Sprintf("%s %d", s.name, s.standard+1))
	}
	for i, a := range lines {
		first := 1
		if i == 0 {
			first = 2
		}
		refused(t, a+"\n"+strings.Join(lines, "\n")+"\n", first, api.ErrSyntax)
		for j, b := range lines {
			s := "centres 1\nnode 0\n" + a + "\n" + b + "\n"
			switch {
			case i == 0:
				refused(t, s, 3, api.ErrSyntax)
			case j < i || i == j && i > 4:
				refused(t, s, 4, api.ErrSyntax)
			case i == 4 && j == 4:
				// Both lines are in place, but the plans are for the same incidents.
				refused(t, s, 4, api.ErrSyntax)
				refused(t, s+"beat 3\n", 5, api.ErrSyntax)
			default:
				if c, line, e := Parse(s); line != 0 || e != api.OK || slowFormat(c) != s {
					t.Errorf("Parse(%q) = %+v, %d, %d", s, c, line, e)
				}
			}
		}
	}
}

// P6.1: numbers of up to 18 digits and any number of kinds are no reason to refuse a line; the text is then refused as a whole.
func TestParseInvalid(t *testing.T) {
	const big = "999999999999999999"
	for _, lines := range [][]string{
		{"centres 0"}, {"centres 1"}, {"centres 10", "node 0"}, {"centres " + big, "node 0"}, {"centres 1", "edge 0 0 1"}, {"centres 1", "beat 1"},
		{"centres 1", "node 1"}, {"centres 1", "node " + big}, {"centres 4", "node 4", "node 0"}, {"centres 1", "node 4294967296"},
		{"centres 1", "node 0", "edge 0 1 1"}, {"centres 1", "node 0", "edge 1 0 1"}, {"centres 1", "node 0", "edge " + big + " 0 1"},
		{"centres 1", "node 0", "edge 0 0 0"}, {"centres 1", "node 0", "edge 0 0 1048577"}, {"centres 1", "node 0", "edge 0 0 " + big},
		{"centres 1", "node 0", "unit car 1 0"}, {"centres 1", "node 0", "unit car 0 1"}, {"centres 1", "node 0", "unit car " + big + " " + big},
		{"centres 1", "node 0", "plan x 0 car"}, {"centres 1", "node 0", "plan x 6 car"}, {"centres 1", "node 0", "plan x " + big + " car"},
		{"centres 1", "node 0", "plan x 1" + strings.Repeat(" car", 9)}, {"centres 1", "node 0", "plan x 1" + strings.Repeat(" car", 9999)},
		{"centres 1", "node 0", "plan x 1 car", "plan x 1 air"}, {"centres 1", "node 0", "plan x 1 car", "plan y 1 car", "plan x 1 car"},
	} {
		s := strings.Join(lines, "\n") + "\n"
		refused(t, s, len(lines), api.ErrSyntax)
		refused(t, s+"room 9\n", len(lines)+1, api.ErrSyntax)
		refused(t, s+"room 9\n\n", len(lines)+2, api.ErrSyntax)
		refused(t, s+"room 9\nx", len(lines)+2, api.ErrSyntax)
	}
	const head = "centres 1\nnode 0\n"
	for _, s := range settings {
		// Of two invalid parameters, the last line is still the one that is reported.
		for _, n := range []string{strconv.FormatInt(s.standard, 10), strconv.FormatInt(s.greatest+1, 10), big, "0"} {
			if n == "0" && s.least == 0 {
				continue
			}
			line := s.name + " " + n + "\n"
			refused(t, head+line, 3, api.ErrSyntax)
			refused(t, head+"plan x 1 car\n"+line, 4, api.ErrSyntax)
			if s.name != "room" {
				refused(t, head+line+"room 9\n", 4, api.ErrSyntax)
			}
		}
	}
	refused(t, head+strings.Repeat("unit car 0 0\n", 257), 259, api.ErrSyntax)
	refused(t, "centres 1\n"+strings.Repeat("node 0\n", 4097), 4098, api.ErrSyntax)
	many := head
	for _, p := range plans(65) {
		many += fmt.Sprintf("plan %s %d car\n", p.Code, p.Urgency)
	}
	refused(t, many, 67, api.ErrSyntax)
}

// P6.1: the greatest lists that fit into a text are parsed.
func TestParseManyLines(t *testing.T) {
	for _, change := range []func(c *api.Config){
		func(c *api.Config) { c.Districts = make([]int, 4096) },
		func(c *api.Config) { longEdges(c, 5000) },
		func(c *api.Config) { c.Units = make([]api.UnitConfig, 256); fill(c.Units, api.UnitConfig{Kind: 3}) },
		func(c *api.Config) { c.Plans = plans(64) },
	} {
		restored(t, edited(change))
	}
}

func fill[E any](l []E, e E) {
	for i := range l {
		l[i] = e
	}
}

// P6.1: a code may look like any other word, and a text is not confused by it.
func TestParseCodes(t *testing.T) {
	for _, code := range []string{"never", "1", "car", "plan", "room", "#", "=", "!", "~", "00", "-1", strings.Repeat("9", 40)} {
		restored(t, edited(func(c *api.Config) { c.Plans[2].Code = code }))
	}
	for b := range 256 {
		s := "centres 1\nnode 0\nplan " + string([]byte{'x', byte(b)}) + " 1 car\n"
		if b > 0x20 && b < 0x7f {
			if c, _, e := Parse(s); e != api.OK || c.Plans[0].Code != string([]byte{'x', byte(b)}) {
				t.Errorf("Parse(%q) = %+v, %d", s, c, e)
			}
		} else {
			refused(t, s, 3, api.ErrSyntax)
		}
	}
}

// P6.2: Parse restores what Format returns.
func TestFormatThenParse(t *testing.T) {
	r := rand.New(rand.NewSource(6))
	for range 3000 {
		restored(t, random(r))
	}
}

// vocabulary has the words of the format, and some that are nearly words of it.
var vocabulary = []string{"centres", "node", "edge", "unit", "plan", "beat", "near", "room", "0", "1", "2", "07", "-1", "999999999999999999", "1000000000000000000", "never", "basic", "air", "x", ""}

// P6.1, P6.2: Parse treats every short line as the slow one does, whether it is the first, the third or the last one.
func TestParseShortLines(t *testing.T) {
	p := newSlowParse()
	var check func(line string, words int)
	check = func(line string, words int) {
		p.same(t, line+"\n")
		p.same(t, "centres 2\nnode 1\n"+line+"\n")
		p.same(t, "centres 2\nnode 1\nnode 1\n"+line+"\nroom 9\n")
		for _, word := range vocabulary {
			if words < 4 {
				check(line+" "+word, words+1)
			}
		}
	}
	for _, word := range vocabulary {
		switch word {
		case "edge", "unit", "plan":
			check(word, 1)
		default:
			// The other lines have two words: the third one is to be too many.
			check(word, 2)
		}
	}
}

// damaged returns a text with a few changes to its bytes, words or lines.
func damaged(r *rand.Rand, s string) string {
	for range 1 + r.Intn(2) {
		lines := strings.SplitAfter(s, "\n")
		i, j := r.Intn(len(lines)), r.Intn(len(lines))
		at := r.Intn(len(s) + 1)
		switch r.Intn(7) {
		case 0:
			lines[i], lines[j] = lines[j], lines[i]
			s = strings.Join(lines, "")
		case 1:
			lines[i] += lines[j]
			s = strings.Join(lines, "")
		case 2:
			lines[i] = ""
			s = strings.Join(lines, "")
		case 3:
			s = s[:at] + string([]byte{" \n019-+xaN\x00\xff\t\r"[r.Intn(14)]}) + s[at:]
		case 4:
			s = s[:at] + s[min(at+1+r.Intn(3), len(s)):]
		case 5:
			words := strings.SplitAfter(lines[i], " ")
			words[r.Intn(len(words))] = vocabulary[r.Intn(len(vocabulary))] + []string{" ", "\n"}[r.Intn(2)]
			lines[i] = strings.Join(words, "")
			s = strings.Join(lines, "")
		case 6:
			lines[i] = vocabulary[5+r.Intn(3)] + " " + strconv.Itoa(r.Intn(20)) + "\n" + lines[i]
			s = strings.Join(lines, "")
		}
	}
	return s
}

// P6.1, P6.2: Parse accepts exactly the texts that Format returns, also among those that are nearly such texts.
func TestParseDamagedTexts(t *testing.T) {
	p := newSlowParse()
	r := rand.New(rand.NewSource(66))
	accepted := 0
	for range 20000 {
		s := damaged(r, slowFormat(random(r)))
		p.same(t, s)
		if c, _, e := Parse(s); e == api.OK {
			accepted++
			if text, e := Format(c); text != s || e != api.OK {
				t.Errorf("Format(Parse(%q)) = %q, %d", s, text, e)
			}
		}
	}
	if accepted < 100 {
		t.Errorf("only %d of the damaged texts are still texts of a configuration", accepted)
	}
}

// Results share no memory with each other, and arguments are not changed.
func TestMemory(t *testing.T) {
	a, _, _ := Parse(everything)
	b, _, _ := Parse(everything)
	fill(a.Districts, 7)
	fill(a.Edges, api.Edge{})
	fill(a.Units, api.UnitConfig{})
	for _, p := range a.Plans {
		fill(p.Kinds, 7)
	}
	fill(a.Plans, api.ResponsePlan{})
	if text, e := Format(b); text != everything || e != api.OK {
		t.Errorf("a change of one result changes another: %q, %d", text, e)
	}
	// Appending to one list of kinds must not write into another.
	before := clone(b)
	for _, p := range b.Plans {
		_ = append(p.Kinds, 9, 9, 9)
	}
	Format(b)
	Equal(b, a)
	if !reflect.DeepEqual(b, before) || slowFormat(b) != everything {
		t.Error("a function changes its argument")
	}
}
