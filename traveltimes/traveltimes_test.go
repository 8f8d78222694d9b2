package traveltimes

import (
	"fmt"
	"math"
	"math/big"
	"math/rand"
	"regexp"
	"slices"
	"strconv"
	"strings"
	"testing"

	"samaritan/api"
	"samaritan/roadgraph"
)

// graph returns a graph of three nodes whose edges have the given times.
func graph(t *testing.T, times ...int64) *roadgraph.Graph {
	t.Helper()
	var l []api.Edge
	for i, time := range times {
		l = append(l, api.Edge{From: i % 3, To: i / 3 % 3, Time: time})
	}
	g, err := roadgraph.New(3, l)
	if err != api.OK {
		t.Fatalf("roadgraph.New: %v", err)
	}
	return g
}

// table returns a table with the given changes.
func table(t *testing.T, g *roadgraph.Graph, l ...api.Change) *Table {
	t.Helper()
	table := New(g)
	for _, c := range l {
		mustAppend(t, table, c)
	}
	return table
}

func mustAppend(t *testing.T, table *Table, c api.Change) {
	t.Helper()
	if err := table.Append(c); err != api.OK {
		t.Fatalf("Append(%v) = %v", c, err)
	}
}

// all returns the changes of a table.
func all(t *Table) []api.Change { return slices.Collect(t.Changes(math.MinInt64, math.MaxInt64)) }

// history is a slow table: it follows the definitions word by word.
type history struct {
	initial []int64
	changes []api.Change
}

func (h history) at(edge int, tick int64) int64 {
	if edge < 0 || edge >= len(h.initial) {
		return 1 << 62
	}
	if tick < 0 {
		tick = 0
	}
	if tick > 1<<40 {
		tick = 1 << 40
	}
	time := h.initial[edge]
	for _, c := range h.changes {
		if c.Edge == edge && c.Tick <= tick {
			time = c.Time
		}
	}
	return time
}

func (h history) all(tick int64) []int64 {
	var l []int64
	for edge := range h.initial {
		l = append(l, h.at(edge, tick))
	}
	return l
}

func (h history) closed(tick int64) []int {
	var l []int
	for edge := range h.initial {
		if h.at(edge, tick) == 1<<62 {
			l = append(l, edge)
		}
	}
	return l
}

func (h history) between(from, to int64) []api.Change {
	var l []api.Change
	for _, c := range h.changes {
		if from <= c.Tick && c.Tick < to {
			l = append(l, c)
		}
	}
	return l
}

func (h history) format() string {
	s := ""
	for _, c := range h.changes {
		time := fmt.Sprint(c.Time)
		if c.Time == 1<<62 {
			time = "closed"
		}
		s += fmt.Sprintf("%d %d %s\n", c.Tick, c.Edge, time)
	}
	return s
}

// ticks returns the ends of the range of ticks, and all ticks at or beside a change.
func (h history) ticks() []int64 {
	l := []int64{math.MinInt64, -1, 0, 1, api.MaxTick - 1, api.MaxTick, api.MaxTick + 1, math.MaxInt64}
	for _, c := range h.changes {
		l = append(l, c.Tick-1, c.Tick, c.Tick+1)
	}
	slices.Sort(l)
	return slices.Compact(l)
}

// same compares all that a table returns with the definitions.
func same(t *testing.T, what string, got *Table, h history) {
	t.Helper()
	ticks := h.ticks()
	for _, tick := range ticks {
		for edge := -1; edge <= len(h.initial); edge++ {
			if time, want := got.At(edge, tick), h.at(edge, tick); time != want {
				t.Errorf("%s: At(%d, %d) = %d, want %d", what, edge, tick, time, want)
			}
		}
		if l, want := got.All(tick), h.all(tick); !slices.Equal(l, want) {
			t.Errorf("%s: All(%d) = %v, want %v", what, tick, l, want)
		}
		if l, want := got.Closed(tick), h.closed(tick); !slices.Equal(l, want) {
			t.Errorf("%s: Closed(%d) = %v, want %v", what, tick, l, want)
		}
		for _, to := range ticks {
			if l, want := slices.Collect(got.Changes(tick, to)), h.between(tick, to); !slices.Equal(l, want) {
				t.Errorf("%s: Changes(%d, %d) yields %v, want %v", what, tick, to, l, want)
			}
		}
	}
	if s, want := got.Format(), h.format(); s != want {
		t.Errorf("%s: Format = %q, want %q", what, s, want)
	}
}

// randomTime returns a travel time, often a small one, the greatest one or Infinite.
func randomTime(r *rand.Rand) int64 {
	switch r.Intn(5) {
	case 0, 1:
		return api.Infinite
	case 2:
		return 1 + r.Int63n(4)
	case 3:
		return api.MaxTravelTime
	}
	return 1 + r.Int63n(api.MaxTravelTime)
}

// random returns a history with repeated ticks, early and late ones.
func random(r *rand.Rand, edges, changes int) history {
	var h history
	for range edges {
		h.initial = append(h.initial, randomTime(r))
	}
	tick := int64(0)
	if r.Intn(4) == 0 {
		tick = api.MaxTick - 20
	}
	for range changes {
		if edges == 0 {
			break
		}
		tick = min(tick+max(0, r.Int63n(6)-2), api.MaxTick)
		h.changes = append(h.changes, api.Change{Tick: tick, Edge: r.Intn(edges), Time: randomTime(r)})
	}
	return h
}

// samples returns histories of graphs with few edges.
func samples() []history {
	l := []history{
		{}, {initial: []int64{5}}, {initial: []int64{api.Infinite, 3}}, example(),
		{[]int64{api.Infinite}, []api.Change{{Tick: 0, Edge: 0, Time: 4}}},
		{[]int64{9, 9}, []api.Change{{Tick: 3, Edge: 1, Time: 1}, {Tick: 3, Edge: 1, Time: 2}, {Tick: 3, Edge: 1, Time: 3}}},
		{[]int64{1}, []api.Change{{Tick: api.MaxTick, Edge: 0, Time: api.Infinite}, {Tick: api.MaxTick, Edge: 0, Time: 2}}},
	}
	r := rand.New(rand.NewSource(8))
	for i := range 200 {
		l = append(l, random(r, r.Intn(6), r.Intn(1+i/8)))
	}
	return l
}

// example is the chapter's example.
func example() history {
	return history{[]int64{5}, []api.Change{{Tick: 10, Edge: 0, Time: api.Infinite}, {Tick: 20, Edge: 0, Time: 7}}}
}

// P8.1: the chapter's example.
func TestExample(t *testing.T) {
	h := example()
	g := graph(t, h.initial...)
	got := table(t, g, h.changes...)
	for tick, want := range map[int64]int64{9: 5, 10: api.Infinite, 20: 7} {
		if time := got.At(0, tick); time != want {
			t.Errorf("At(0, %d) = %d, want %d", tick, time, want)
		}
	}
	text := "10 0 closed\n20 0 7\n"
	if s := got.Format(); s != text {
		t.Errorf("Format = %q, want %q", s, text)
	}
	parsed, line, err := Parse(g, text)
	if parsed == nil || line != 0 || err != api.OK {
		t.Fatalf("Parse(%q) = %v, %d, %v", text, parsed, line, err)
	}
	same(t, "parsed", parsed, h)
}

// P8.1: there is no table without a graph.
func TestNoGraph(t *testing.T) {
	if got := New(nil); got != nil {
		t.Errorf("New(nil) = %v", got)
	}
	for _, s := range []string{"", "10 0 closed\n", "x"} {
		if got, line, err := Parse(nil, s); got != nil || line != 0 || err != api.ErrInvalid {
			t.Errorf("Parse(nil, %q) = %v, %d, %v", s, got, line, err)
		}
	}
}

// P8.1: a table without changes has the times of the graph.
func TestNoChanges(t *testing.T) {
	for _, times := range [][]int64{nil, {1}, {api.Infinite}, {7, api.Infinite, api.MaxTravelTime, 7}} {
		g := graph(t, times...)
		same(t, fmt.Sprintf("times %v", times), New(g), history{initial: times})
		got, line, err := Parse(g, "")
		if got == nil || line != 0 || err != api.OK {
			t.Fatalf("times %v: Parse of no lines = %v, %d, %v", times, got, line, err)
		}
		same(t, fmt.Sprintf("times %v, parsed", times), got, history{initial: times})
	}
}

// P8.1: Append accepts the limits of every range, and equal ticks.
func TestAppendAccepts(t *testing.T) {
	for what, l := range map[string][]api.Change{
		"tick 0":              {{Tick: 0, Edge: 0, Time: 5}},
		"tick 2^40":           {{Tick: 1099511627776, Edge: 0, Time: 5}},
		"last edge":           {{Tick: 3, Edge: 2, Time: 5}},
		"time 1":              {{Tick: 3, Edge: 1, Time: 1}},
		"time 2^20":           {{Tick: 3, Edge: 1, Time: 1048576}},
		"time 2^62":           {{Tick: 3, Edge: 1, Time: 4611686018427387904}},
		"the graph's time":    {{Tick: 3, Edge: 1, Time: 8}},
		"the same tick":       {{Tick: 3, Edge: 0, Time: 5}, {Tick: 3, Edge: 1, Time: 5}, {Tick: 3, Edge: 0, Time: 6}},
		"the same change":     {{Tick: 3, Edge: 0, Time: 5}, {Tick: 3, Edge: 0, Time: 5}},
		"closed again":        {{Tick: 3, Edge: 0, Time: api.Infinite}, {Tick: 4, Edge: 0, Time: api.Infinite}},
		"tick 0 and tick max": {{Tick: 0, Edge: 0, Time: 5}, {Tick: 0, Edge: 0, Time: 6}, {Tick: api.MaxTick, Edge: 0, Time: 7}},
	} {
		same(t, what, table(t, graph(t, 7, 8, 9), l...), history{[]int64{7, 8, 9}, l})
	}
	last := api.Change{Tick: 1, Edge: api.MaxEdges - 1, Time: 2}
	got := table(t, graph(t, slices.Repeat([]int64{3}, api.MaxEdges)...), last)
	if l := got.All(1); len(l) != api.MaxEdges || l[last.Edge] != 2 || got.At(last.Edge, 0) != 3 {
		t.Errorf("%d times after a change of the last of %d edges", len(l), api.MaxEdges)
	}
}

// P8.1: Append refuses invalid changes, then those that come too late, and leaves the table unchanged.
func TestAppendRefuses(t *testing.T) {
	h := history{[]int64{7, api.Infinite}, []api.Change{{Tick: 10, Edge: 0, Time: 5}, {Tick: 20, Edge: 1, Time: 6}}}
	got := table(t, graph(t, h.initial...), h.changes...)
	for _, c := range []struct {
		change api.Change
		want   api.Errno
	}{
		{api.Change{Tick: -1, Edge: 0, Time: 5}, api.ErrInvalid},
		{api.Change{Tick: math.MinInt64, Edge: 0, Time: 5}, api.ErrInvalid},
		{api.Change{Tick: api.MaxTick + 1, Edge: 0, Time: 5}, api.ErrInvalid},
		{api.Change{Tick: math.MaxInt64, Edge: 0, Time: 5}, api.ErrInvalid},
		{api.Change{Tick: 30, Edge: -1, Time: 5}, api.ErrInvalid},
		{api.Change{Tick: 30, Edge: 2, Time: 5}, api.ErrInvalid},
		{api.Change{Tick: 30, Edge: math.MinInt, Time: 5}, api.ErrInvalid},
		{api.Change{Tick: 30, Edge: math.MaxInt, Time: 5}, api.ErrInvalid},
		{api.Change{Tick: 30, Edge: 0, Time: 0}, api.ErrInvalid},
		{api.Change{Tick: 30, Edge: 0, Time: -1}, api.ErrInvalid},
		{api.Change{Tick: 30, Edge: 0, Time: math.MinInt64}, api.ErrInvalid},
		{api.Change{Tick: 30, Edge: 0, Time: api.MaxTravelTime + 1}, api.ErrInvalid},
		{api.Change{Tick: 30, Edge: 0, Time: api.Infinite - 1}, api.ErrInvalid},
		{api.Change{Tick: 30, Edge: 0, Time: api.Infinite + 1}, api.ErrInvalid},
		{api.Change{Tick: 30, Edge: 0, Time: math.MaxInt64}, api.ErrInvalid},
		{api.Change{Tick: 5, Edge: 2, Time: 5}, api.ErrInvalid},
		{api.Change{Tick: 5, Edge: 0, Time: 0}, api.ErrInvalid},
		{api.Change{Tick: 19, Edge: 0, Time: 5}, api.ErrState},
		{api.Change{Tick: 19, Edge: 1, Time: 5}, api.ErrState},
		{api.Change{Tick: 0, Edge: 0, Time: api.Infinite}, api.ErrState},
	} {
		if err := got.Append(c.change); err != c.want {
			t.Errorf("Append(%v) = %v, want %v", c.change, err, c.want)
		}
		same(t, fmt.Sprintf("after Append(%v)", c.change), got, h)
	}
	h.changes = append(h.changes, api.Change{Tick: 20, Edge: 0, Time: 8})
	mustAppend(t, got, h.changes[2])
	same(t, "after a valid change", got, h)
	if err := New(graph(t)).Append(api.Change{Tick: 1, Edge: 0, Time: 1}); err != api.ErrInvalid {
		t.Errorf("Append without edges = %v", err)
	}
}

// P8.1: everything that a table returns follows the definitions, after each change.
func TestFollowsTheDefinitions(t *testing.T) {
	for i, h := range samples() {
		g := graph(t, h.initial...)
		got := New(g)
		same(t, fmt.Sprintf("sample %d without changes", i), got, history{initial: h.initial})
		for n, c := range h.changes {
			mustAppend(t, got, c)
			if n%7 == 0 || n == len(h.changes)-1 {
				same(t, fmt.Sprintf("sample %d after %d changes", i, n+1), got, history{h.initial, h.changes[:n+1]})
			}
		}
	}
}

// P8.1: the ticks of At, All and Closed are clamped, those of Changes are not.
func TestClamping(t *testing.T) {
	first, last := api.Change{Tick: 0, Edge: 0, Time: api.Infinite}, api.Change{Tick: api.MaxTick, Edge: 0, Time: 3}
	got := table(t, graph(t, 2), first, last)
	for tick, want := range map[int64]int64{
		math.MinInt64: api.Infinite, -1: api.Infinite, 0: api.Infinite, api.MaxTick - 1: api.Infinite,
		api.MaxTick: 3, api.MaxTick + 1: 3, api.Infinite: 3, math.MaxInt64: 3,
	} {
		if time := got.At(0, tick); time != want {
			t.Errorf("At(0, %d) = %d, want %d", tick, time, want)
		}
		if l := got.All(tick); !slices.Equal(l, []int64{want}) {
			t.Errorf("All(%d) = %v, want %d", tick, l, want)
		}
		if l := got.Closed(tick); (len(l) == 1) != (want == api.Infinite) {
			t.Errorf("Closed(%d) = %v, but the time is %d", tick, l, want)
		}
	}
	for _, c := range []struct {
		from, to int64
		want     []api.Change
	}{
		{math.MinInt64, math.MaxInt64, []api.Change{first, last}},
		{-1, 0, nil},
		{-1, 1, []api.Change{first}},
		{0, api.MaxTick, []api.Change{first}},
		{0, api.MaxTick + 1, []api.Change{first, last}},
		{1, api.MaxTick, nil},
		{api.MaxTick, api.MaxTick + 1, []api.Change{last}},
		{api.MaxTick + 1, math.MaxInt64, nil},
		{math.MinInt64, -1, nil},
		{0, 0, nil},
		{api.MaxTick, 0, nil},
		{math.MaxInt64, math.MinInt64, nil},
	} {
		if l := slices.Collect(got.Changes(c.from, c.to)); !slices.Equal(l, c.want) {
			t.Errorf("Changes(%d, %d) yields %v, want %v", c.from, c.to, l, c.want)
		}
	}
}

// P8.1: an edge that does not exist is closed, but is not among the edges of All and Closed.
func TestNoEdge(t *testing.T) {
	for _, times := range [][]int64{nil, {4}, {4, 5, 6}} {
		got := New(graph(t, times...))
		for _, edge := range []int{math.MinInt, -1, len(times), len(times) + 1, math.MaxInt} {
			if time := got.At(edge, 3); time != api.Infinite {
				t.Errorf("%d edges: At(%d, 3) = %d", len(times), edge, time)
			}
		}
		if l := got.All(3); len(l) != len(times) {
			t.Errorf("%d edges: All = %v", len(times), l)
		}
		if l := got.Closed(3); len(l) != 0 {
			t.Errorf("%d edges: Closed = %v", len(times), l)
		}
	}
}

// P8.1: an iterator yields the changes that existed when Changes was called, also while others are appended.
func TestChangesOfTheCall(t *testing.T) {
	r := rand.New(rand.NewSource(9))
	for i, h := range samples() {
		if len(h.initial) == 0 {
			continue
		}
		got := New(graph(t, h.initial...))
		var sequences []func(func(api.Change) bool)
		for _, c := range h.changes {
			sequences = append(sequences, got.Changes(0, math.MaxInt64))
			mustAppend(t, got, c)
		}
		want := all(got)
		var l []api.Change
		for c := range got.Changes(0, math.MaxInt64) {
			l = append(l, c)
			mustAppend(t, got, api.Change{Tick: api.MaxTick, Edge: r.Intn(len(h.initial)), Time: 1})
		}
		if !slices.Equal(l, want) {
			t.Errorf("sample %d: %v while others are appended, want %v", i, l, want)
		}
		for n, s := range sequences {
			if l := slices.Collect(s); !slices.Equal(l, want[:n]) {
				t.Errorf("sample %d: %v, want the first %d changes", i, l, n)
			}
		}
	}
}

// P8.1: an iterator stops with its loop, and can be used again, also inside of its own loop.
func TestChangesInLoops(t *testing.T) {
	h := history{[]int64{1, 2}, nil}
	for n := range 5 {
		h.changes = append(h.changes, api.Change{Tick: int64(n / 2), Edge: n % 2, Time: int64(n + 1)})
	}
	changes := table(t, graph(t, h.initial...), h.changes...).Changes(0, 2)
	want := h.changes[:4]
	for steps := range want {
		var got []api.Change
		for c := range changes {
			got = append(got, c)
			if len(got) > steps {
				break
			}
		}
		if !slices.Equal(got, want[:steps+1]) {
			t.Errorf("%v in %d steps, want the beginning of %v", got, steps+1, want)
		}
	}
	for range changes {
		if got := slices.Collect(changes); !slices.Equal(got, want) {
			t.Errorf("%v inside of the loop, want %v", got, want)
		}
	}
}

// P8.2: a change has no effect on earlier ticks and other edges; later, its edge has its time.
func TestChangeIsLocal(t *testing.T) {
	r := rand.New(rand.NewSource(10))
	for i, h := range samples() {
		if len(h.initial) == 0 {
			continue
		}
		g := graph(t, h.initial...)
		before, after := table(t, g, h.changes...), table(t, g, h.changes...)
		c := api.Change{Edge: r.Intn(len(h.initial)), Time: randomTime(r)}
		for _, other := range h.changes {
			c.Tick = min(other.Tick+r.Int63n(3), api.MaxTick)
		}
		mustAppend(t, after, c)
		h.changes = append(h.changes, c)
		for _, tick := range h.ticks() {
			for edge := range h.initial {
				want := before.At(edge, tick)
				if edge == c.Edge && min(max(tick, 0), api.MaxTick) >= c.Tick {
					want = c.Time
				}
				if got := after.At(edge, tick); got != want {
					t.Errorf("sample %d, after %v: At(%d, %d) = %d, want %d", i, c, edge, tick, got, want)
				}
			}
		}
	}
}

// P8.2: Parse restores the changes that Format writes, and a restored table goes on like the other one.
func TestFormatAndParse(t *testing.T) {
	for i, h := range samples() {
		g := graph(t, h.initial...)
		first := table(t, g, h.changes...)
		second, line, err := Parse(g, first.Format())
		if second == nil || line != 0 || err != api.OK {
			t.Fatalf("sample %d: Parse(%q) = %v, %d, %v", i, first.Format(), second, line, err)
		}
		same(t, fmt.Sprintf("sample %d", i), second, h)
		for tick := range int64(40) {
			c := api.Change{Tick: tick, Edge: int(tick) % 3, Time: 1 + tick%2}
			if a, b := first.Append(c), second.Append(c); a != b {
				t.Errorf("sample %d: Append(%v) = %v, in the restored table %v", i, c, a, b)
			}
		}
		if a, b := first.Format(), second.Format(); a != b {
			t.Errorf("sample %d: %q, restored %q", i, a, b)
		}
	}
}

// lineForm is the form of a line; group 3 is the number of a time.
var lineForm = regexp.MustCompile(`^(0|[1-9][0-9]*) (0|[1-9][0-9]*) (?:closed|([1-9][0-9]*))\n$`)

// badLine returns the number of the first bad line of a text for a graph with the given number of edges, or 0. It is slow.
func badLine(edges int, s string) int {
	last := new(big.Int)
	for i, line := range strings.SplitAfter(s, "\n") {
		if line == "" {
			break // what follows the last newline
		}
		m := lineForm.FindStringSubmatch(line)
		if m == nil {
			return i + 1
		}
		if m[3] == "" {
			m[3] = "1"
		}
		var n [3]*big.Int
		for k := range n {
			n[k], _ = new(big.Int).SetString(m[k+1], 10)
		}
		if n[0].Cmp(last) < 0 || n[0].Cmp(big.NewInt(1<<40)) > 0 || n[1].Cmp(big.NewInt(int64(edges))) >= 0 || n[2].Cmp(big.NewInt(1<<20)) > 0 {
			return i + 1
		}
		last = n[0]
	}
	return 0
}

// checkParse compares Parse with badLine.
func checkParse(t *testing.T, g *roadgraph.Graph, s string) {
	t.Helper()
	got, line, err := Parse(g, s)
	want := badLine(g.Edges(), s)
	switch {
	case want > 0 && (got != nil || line != want || err != api.ErrSyntax):
		t.Errorf("Parse(%q) = %v, %d, %v, want line %d", s, got, line, err, want)
	case want == 0 && (got == nil || line != 0 || err != api.OK):
		t.Errorf("Parse(%q) = %v, %d, %v, want a table", s, got, line, err)
	case want == 0 && got.Format() != s:
		t.Errorf("Parse(%q) is a table with the format %q", s, got.Format())
	}
}

// P8.1: Parse refuses lines that are not those of changes.
func TestParseRefusesLines(t *testing.T) {
	g := graph(t, 3, 4)
	for _, line := range []string{
		"\n", " \n", "closed\n", "1\n", "1 0\n", "1 0 \n", "1 0 5", "1 0 closed", "1 0 5 \n", "1 0 5 6\n", " 1 0 5\n", "1  0 5\n", "1 0  5\n",
		"1\t0 5\n", "1 0\t5\n", "1,0,5\n", "1 0 5\r\n", "1 0 5\r", "1 0 5\x00\n", "\ufeff1 0 5\n", "١ 0 5\n",
		"01 0 5\n", "1 00 5\n", "1 0 05\n", "00 0 5\n", "-0 0 5\n", "1 -0 5\n", "+1 0 5\n", "1 +0 5\n", "1 0 +5\n", "1 0 -5\n", "-1 0 5\n", "1 -1 5\n",
		"1_0 0 5\n", "0x1 0 5\n", "1e3 0 5\n", "1.0 0 5\n", "x 0 5\n", "1 x 5\n", "1 0 x\n", " 0 5\n", "1  5\n", "closed 0 5\n", "1 closed 5\n",
		"1 0 Closed\n", "1 0 CLOSED\n", "1 0 close\n", "1 0 closed \n", "1 0 closedclosed\n", "1 0 never\n", "1 0 0\n", "1 0 1048577\n",
		"1 0 4611686018427387904\n", "1 0 4611686018427387903\n", "1 0 9223372036854775807\n", "1 0 9223372036854775808\n", "1 0 18446744073709551621\n",
		"1 2 5\n", "1 4294967296 5\n", "1 18446744073709551616 5\n", "1099511627777 0 5\n", "9223372036854775808 0 5\n", "18446744073709551617 0 5\n",
		strings.Repeat("0", 99) + "1 0 5\n", "1" + strings.Repeat("0", 99) + " 0 5\n", "1 0 5" + strings.Repeat("0", 99) + "\n",
	} {
		for _, before := range []string{"", "0 0 5\n", "0 1 closed\n1 0 7\n1 0 7\n"} {
			s, want := before+line+"x\n", strings.Count(before, "\n")+1
			if got, n, err := Parse(g, s); got != nil || n != want || err != api.ErrSyntax {
				t.Errorf("Parse(%q) = %v, %d, %v, want line %d", s, got, n, err, want)
			}
			checkParse(t, g, before+line)
		}
	}
}

// P8.1: Parse refuses lines whose changes cannot be appended there.
func TestParseRefusesOrder(t *testing.T) {
	g := graph(t, 3, 4)
	for s, want := range map[string]int{
		"5 0 5\n4 0 5\n":               2,
		"5 0 5\n4 1 5\n":               2,
		"5 0 5\n5 1 5\n6 1 5\n5 1 5\n": 4,
		"1099511627776 0 5\n0 0 5\n":   2,
		"10 0 5\n9 0 5\nx\n":           2,
		"10 0 5\n9 0 5":                2,
		"10 0 5\n10 0 5":               2,
		"10 0 5\n\n11 0 5\n":           2,
		"10 0 5\n11 0 5\n\n":           3,
	} {
		if got, n, err := Parse(g, s); got != nil || n != want || err != api.ErrSyntax {
			t.Errorf("Parse(%q) = %v, %d, %v, want line %d", s, got, n, err, want)
		}
	}
	checkParse(t, g, "9 0 5\n10 1 5\n10 0 5\n1099511627776 0 1048576\n1099511627776 1 closed\n1099511627776 1 1\n")
}

// P8.1: Parse agrees with the definition on all short texts of selected characters, alone and after a line.
func TestParseShortTexts(t *testing.T) {
	g := graph(t, 3, 4)
	for _, parts := range [][]string{
		{"0", "1", "2", " ", "\n", "-"},
		{"1", "10", "0", " ", "\n", "closed"},
		{"1 0", "0 1", "2 2", " 5\n", " closed\n", "\n", " ", "0"},
	} {
		longest := 6
		if len(parts) > 6 {
			longest = 5
		}
		for length := range longest + 1 {
			count := 1
			for range length {
				count *= len(parts)
			}
			for code := range count {
				s, rest := "", code
				for range length {
					s += parts[rest%len(parts)]
					rest /= len(parts)
				}
				checkParse(t, g, s)
				checkParse(t, g, "1 1 5\n"+s)
			}
		}
	}
}

// P8.1: Parse agrees with the definition on formatted tables in which some bytes have been changed.
func TestParseDamagedTexts(t *testing.T) {
	r := rand.New(rand.NewSource(11))
	const bytes = "0123456789 \n\nclosed-+x\x00\xff"
	for _, h := range samples() {
		g := graph(t, h.initial...)
		for range 40 {
			s := []byte(h.format())
			for range 1 + r.Intn(2) {
				b := bytes[r.Intn(len(bytes))]
				switch at := r.Intn(len(s) + 1); {
				case at == len(s) || r.Intn(3) == 0:
					s = slices.Insert(s, at, b)
				case r.Intn(2) == 0:
					s = slices.Delete(s, at, at+1)
				default:
					s[at] = b
				}
			}
			checkParse(t, g, string(s))
		}
		// What is cut off in the middle of a line ends with a bad line.
		text := h.format()
		for end := range text {
			checkParse(t, g, text[:end])
		}
	}
}

// P8.1: results share no memory with the table or with each other, and tables share none with each other.
func TestSharesNoMemory(t *testing.T) {
	h := history{[]int64{3, api.Infinite, 5}, []api.Change{{Tick: 2, Edge: 0, Time: api.Infinite}, {Tick: 4, Edge: 2, Time: 6}}}
	g := graph(t, h.initial...)
	first := table(t, g, h.changes...)
	second, _, _ := Parse(g, first.Format())
	third := New(g)
	for _, tick := range h.ticks() {
		clear(first.All(tick))
		clear(second.Closed(tick))
		times, edges := first.All(tick), first.Closed(tick)
		_ = append(times, 99)
		_ = append(edges, 99)
	}
	same(t, "first", first, h)
	mustAppend(t, second, api.Change{Tick: 9, Edge: 1, Time: 1})
	mustAppend(t, third, api.Change{Tick: 0, Edge: 1, Time: 2})
	mustAppend(t, first, api.Change{Tick: 9, Edge: 1, Time: 3})
	for got, time := range map[*Table]int64{first: 3, second: 1} {
		same(t, "after other changes", got, history{h.initial, append(h.changes[:2:2], api.Change{Tick: 9, Edge: 1, Time: time})})
	}
	same(t, "third", third, history{h.initial, []api.Change{{Tick: 0, Edge: 1, Time: 2}}})
	if l := g.TravelTimes(); !slices.Equal(l, h.initial) {
		t.Errorf("the graph has the times %v, want %v", l, h.initial)
	}
}

// No method panics on a table that New has not made (LANGUAGE.md, rule 4): it has no edges.
func TestZeroTable(t *testing.T) {
	var zero Table
	same(t, "zero value", &zero, history{})
	if err := zero.Append(api.Change{Tick: 1, Edge: 0, Time: 1}); err != api.ErrInvalid {
		t.Errorf("Append = %v", err)
	}
	same(t, "zero value after Append", &zero, history{})
}

// P8.1 and P8.2: long lists of changes, whose text is longer than MaxText.
func TestManyChanges(t *testing.T) {
	const changes = 100_000
	g := graph(t, 1, 2)
	got := New(g)
	var text strings.Builder
	for n := range changes {
		mustAppend(t, got, api.Change{Tick: int64(2 * n), Edge: 0, Time: int64(n + 1)})
		text.WriteString(strconv.Itoa(2*n) + " 0 " + strconv.Itoa(n+1) + "\n")
	}
	s := got.Format()
	if s != text.String() {
		t.Fatalf("Format returns %d bytes, want %d", len(s), text.Len())
	}
	parsed, line, err := Parse(g, s)
	if parsed == nil || line != 0 || err != api.OK {
		t.Fatalf("Parse of %d bytes = %d, %v", len(s), line, err)
	}
	for n := range changes {
		for _, tick := range []int64{int64(2 * n), int64(2*n + 1)} {
			if a, b := got.At(0, tick), parsed.At(0, tick); a != int64(n+1) || b != int64(n+1) {
				t.Fatalf("At(0, %d) = %d, parsed %d, want %d", tick, a, b, n+1)
			}
		}
		if l := slices.Collect(parsed.Changes(int64(2*n), int64(2*n+1))); len(l) != 1 || l[0].Time != int64(n+1) {
			t.Fatalf("changes of tick %d: %v", 2*n, l)
		}
	}
	if _, line, err := Parse(g, s+"199997 0 1\n"); line != changes+1 || err != api.ErrSyntax {
		t.Errorf("Parse of one more line = %d, %v", line, err)
	}
}
