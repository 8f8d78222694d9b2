package roadgraph

import (
	"fmt"
	"iter"
	"math"
	"math/rand"
	"slices"
	"testing"

	"samaritan/api"
	"samaritan/nodeset"
)

// network is what a graph is built from.
type network struct {
	nodes int
	edges []api.Edge
}

// graph builds the graph of a network.
func graph(t *testing.T, w network) *Graph {
	t.Helper()
	g, err := New(w.nodes, w.edges)
	if g == nil || err != api.OK {
		t.Fatalf("New(%d, %d edges) = %v, %v", w.nodes, len(w.edges), g, err)
	}
	return g
}

// roads returns open edges of time 1 between the given nodes, two for each edge.
func roads(ends ...int) []api.Edge {
	var l []api.Edge
	for i := 0; i < len(ends); i += 2 {
		l = append(l, api.Edge{From: ends[i], To: ends[i+1], Time: 1})
	}
	return l
}

// example is the network of the chapter's example.
func example() network {
	w := network{4, roads(0, 1, 1, 0, 1, 2, 2, 3)}
	w.edges[3].Time = api.Infinite
	return w
}

// random returns a network with closed edges, self-loops and parallel edges among the others.
func random(r *rand.Rand, nodes, edges int) network {
	w := network{nodes: nodes}
	for range edges {
		e := api.Edge{From: r.Intn(nodes), To: r.Intn(nodes), Time: 1 + r.Int63n(api.MaxTravelTime)}
		if r.Intn(4) == 0 {
			e.Time = api.Infinite
		}
		w.edges = append(w.edges, e)
	}
	return w
}

// chain returns the network 0→1→…→nodes-1, whose last node leads back to node 0 if ring is true.
func chain(nodes int, ring bool) network {
	w := network{nodes: nodes}
	for n := range nodes - 1 {
		w.edges = append(w.edges, api.Edge{From: n, To: n + 1, Time: int64(1 + n)})
	}
	if ring {
		w.edges = append(w.edges, api.Edge{From: nodes - 1, To: 0, Time: 1})
	}
	return w
}

// samples returns small networks of all shapes.
func samples() []network {
	l := []network{
		example(), {1, nil}, {5, []api.Edge{}}, {1, roads(0, 0)}, {2, roads(0, 1, 0, 1, 0, 1)},
		{6, roads(5, 3, 3, 5, 4, 2, 2, 0, 0, 4, 0, 5)}, {7, roads(6, 5, 5, 4, 4, 3, 3, 2, 2, 1, 1, 0)}, chain(9, false), chain(9, true),
	}
	r := rand.New(rand.NewSource(7))
	for i := range 300 {
		nodes := 1 + r.Intn(12)
		l = append(l, random(r, nodes, r.Intn(1+nodes*(1+i%3))))
	}
	return l
}

// closure returns for each pair of nodes whether the second is reachable from the first, found by Warshall's algorithm.
func closure(w network) [][]bool {
	m := make([][]bool, w.nodes)
	for a := range m {
		m[a] = make([]bool, w.nodes)
		m[a][a] = true
	}
	for _, e := range w.edges {
		if e.Time < api.Infinite {
			m[e.From][e.To] = true
		}
	}
	for via := range m {
		for a := range m {
			for b := range m {
				m[a][b] = m[a][b] || m[a][via] && m[via][b]
			}
		}
	}
	return m
}

// texts returns the string forms of sets.
func texts(l []nodeset.Set) []string {
	var s []string
	for _, x := range l {
		s = append(s, x.String())
	}
	return s
}

// P7.1: the chapter's example.
func TestExample(t *testing.T) {
	g := graph(t, example())
	if got := g.Reachable(nodeset.Of(0)).String(); got != "0-2" {
		t.Errorf("Reachable({0}) = {%s}, want {0-2}", got)
	}
	if got := texts(g.Components()); !slices.Equal(got, []string{"0-1", "2", "3"}) {
		t.Errorf("Components = %q", got)
	}
}

// P7.1: New accepts the limits of every range.
func TestNewAccepts(t *testing.T) {
	last := api.MaxNodes - 1
	for what, w := range map[string]network{
		"one node":               {1, nil},
		"4096 nodes":             {4096, nil},
		"edges of the last node": {4096, roads(last, 0, 0, last, last, last)},
		"16384 edges":            {3, slices.Repeat(roads(2, 0), 16384)},
		"time 1":                 {2, []api.Edge{{From: 0, To: 1, Time: 1}}},
		"time 2^20":              {2, []api.Edge{{From: 0, To: 1, Time: 1048576}}},
		"time 2^62":              {2, []api.Edge{{From: 0, To: 1, Time: 1 << 62}}},
		"self-loops":             {2, roads(0, 0, 1, 1, 1, 1)},
		"parallel edges":         {2, roads(0, 1, 0, 1, 1, 0)},
	} {
		g, err := New(w.nodes, w.edges)
		if g == nil || err != api.OK {
			t.Errorf("%s: New = %v, %v", what, g, err)
			continue
		}
		same(t, what, g, w)
	}
}

// P7.1: New returns the first error that applies, and no graph.
func TestNewErrors(t *testing.T) {
	bad := func(e api.Edge) []api.Edge {
		return []api.Edge{{From: 1, To: 2, Time: 3}, e, {From: 2, To: 0, Time: 1}}
	}
	many := slices.Repeat(roads(0, 1), api.MaxEdges+1)
	manyBad := slices.Repeat(roads(-1, 1), api.MaxEdges+1)
	type problem struct {
		nodes int
		edges []api.Edge
		want  api.Errno
	}
	problems := []problem{
		{0, nil, api.ErrInvalid}, {-1, nil, api.ErrInvalid}, {math.MinInt, nil, api.ErrInvalid}, {4097, nil, api.ErrInvalid}, {math.MaxInt, nil, api.ErrInvalid},
		{3, many, api.ErrTooMany}, {3, manyBad, api.ErrTooMany}, {1, many, api.ErrTooMany},
		{0, many, api.ErrInvalid}, {4097, manyBad, api.ErrInvalid}, {0, bad(api.Edge{}), api.ErrInvalid},
	}
	for _, n := range []int{-1, math.MinInt, 3, 4, 4096, math.MaxInt} {
		problems = append(problems, problem{3, bad(api.Edge{From: n, To: 0, Time: 1}), api.ErrInvalid}, problem{3, bad(api.Edge{From: 0, To: n, Time: 1}), api.ErrInvalid})
	}
	for _, time := range []int64{0, -1, math.MinInt64, 1<<20 + 1, 1<<62 - 1, 1<<62 + 1, math.MaxInt64} {
		problems = append(problems, problem{3, bad(api.Edge{From: 0, To: 1, Time: time}), api.ErrInvalid})
	}
	for _, p := range problems {
		if g, err := New(p.nodes, p.edges); g != nil || err != p.want {
			t.Errorf("New(%d, %d edges, the first %v) = %v, %v, want nil, %v", p.nodes, len(p.edges), p.edges[:min(2, len(p.edges))], g, err, p.want)
		}
	}
}

// same checks what a graph tells about its nodes and its edges.
func same(t *testing.T, what string, g *Graph, w network) {
	t.Helper()
	if g.Nodes() != w.nodes || g.Edges() != len(w.edges) {
		t.Errorf("%s: %d nodes and %d edges, want %d and %d", what, g.Nodes(), g.Edges(), w.nodes, len(w.edges))
	}
	out, in := make([][]int, w.nodes), make([][]int, w.nodes)
	var times []int64
	for i, want := range w.edges {
		if e, ok := g.Edge(i); e != want || !ok {
			t.Errorf("%s: Edge(%d) = %v, %v, want %v", what, i, e, ok, want)
		}
		out[want.From] = append(out[want.From], i)
		in[want.To] = append(in[want.To], i)
		times = append(times, want.Time)
	}
	if got := g.TravelTimes(); !slices.Equal(got, times) {
		t.Errorf("%s: TravelTimes = %v, want %v", what, got, times)
	}
	for n := range w.nodes {
		if got := slices.Collect(g.OutEdges(n)); !slices.Equal(got, out[n]) {
			t.Errorf("%s: OutEdges(%d) yields %v, want %v", what, n, got, out[n])
		}
		if got := slices.Collect(g.InEdges(n)); !slices.Equal(got, in[n]) {
			t.Errorf("%s: InEdges(%d) yields %v, want %v", what, n, got, in[n])
		}
	}
}

// P7.1: nodes, edges and travel times are those that were passed to New.
func TestNodesAndEdges(t *testing.T) {
	for i, w := range samples() {
		same(t, fmt.Sprintf("sample %d", i), graph(t, w), w)
	}
	r := rand.New(rand.NewSource(8))
	w := random(r, api.MaxNodes, api.MaxEdges)
	same(t, "large network", graph(t, w), w)
}

// P7.1: numbers that are not edges have none, and numbers that are not nodes have no edges.
func TestOutOfRange(t *testing.T) {
	for _, w := range []network{example(), {1, nil}, chain(api.MaxNodes, true)} {
		g := graph(t, w)
		for _, i := range []int{math.MinInt, -1, len(w.edges), len(w.edges) + 1, math.MaxInt} {
			if e, ok := g.Edge(i); e != (api.Edge{}) || ok {
				t.Errorf("Edge(%d) = %v, %v", i, e, ok)
			}
		}
		for _, n := range []int{math.MinInt, -w.nodes, -1, w.nodes, w.nodes + 1, math.MaxInt} {
			for i := range g.OutEdges(n) {
				t.Errorf("edge %d leaves %d", i, n)
			}
			for i := range g.InEdges(n) {
				t.Errorf("edge %d enters %d", i, n)
			}
		}
	}
}

// P7.1: a sequence stops with its loop, and can be used again, also inside of its own loop.
func TestSequences(t *testing.T) {
	g := graph(t, network{2, roads(0, 1, 1, 0, 0, 1, 0, 1, 1, 1)})
	for what, c := range map[string]struct {
		edges iter.Seq[int]
		want  []int
	}{"out": {g.OutEdges(0), []int{0, 2, 3}}, "in": {g.InEdges(1), []int{0, 2, 3, 4}}} {
		for steps := range c.want {
			var got []int
			for i := range c.edges {
				got = append(got, i)
				if len(got) > steps {
					break
				}
			}
			if !slices.Equal(got, c.want[:steps+1]) {
				t.Errorf("%s: %v in %d steps, want the beginning of %v", what, got, steps+1, c.want)
			}
		}
		for range c.edges {
			if got := slices.Collect(c.edges); !slices.Equal(got, c.want) {
				t.Errorf("%s: %v inside of the loop, want %v", what, got, c.want)
			}
		}
	}
}

// P7.1: a graph keeps nothing of the arguments of New, and gives away nothing of its own.
func TestSharesNoMemory(t *testing.T) {
	w := example()
	passed := slices.Clone(w.edges)
	g := graph(t, network{w.nodes, passed})
	reverse := g.Reverse()
	if !slices.Equal(passed, w.edges) {
		t.Errorf("New changed its argument to %v", passed)
	}
	clear(passed)
	clear(g.TravelTimes())
	g.Components()[0] = nodeset.Set{}
	same(t, "graph", g, w)
	clear(reverse.TravelTimes())
	for i := range w.edges {
		w.edges[i].From, w.edges[i].To = w.edges[i].To, w.edges[i].From
	}
	same(t, "reverse", reverse, w)
}

// sets returns sets of the nodes of a network, with and without numbers that are not its nodes.
func sets(r *rand.Rand, nodes int) [][]int {
	l := [][]int{nil, r.Perm(nodes), {nodes, api.MaxNodes - 1}, {r.Intn(nodes), nodes}}
	for range 3 {
		l = append(l, r.Perm(nodes)[:r.Intn(nodes+1)])
	}
	for n := range nodes {
		l = append(l, []int{n})
	}
	return l
}

// P7.1: Reachable returns the nodes of all paths from the nodes of a set, and is idempotent (P7.2).
func TestReachable(t *testing.T) {
	r := rand.New(rand.NewSource(9))
	for i, w := range samples() {
		g, m := graph(t, w), closure(w)
		for _, from := range sets(r, w.nodes) {
			var want []int
			for b := range w.nodes {
				if slices.ContainsFunc(from, func(a int) bool { return a < w.nodes && m[a][b] }) {
					want = append(want, b)
				}
			}
			got := g.Reachable(nodeset.Of(from...))
			if !slices.Equal(got.List(), want) {
				t.Errorf("sample %d: Reachable(%v) = %s, want %v", i, from, got, want)
			}
			if again := g.Reachable(got); !again.Equal(got) {
				t.Errorf("sample %d: Reachable(%s) = %s", i, got, again)
			}
		}
	}
}

// checkComponents compares the components of a graph with the definition.
func checkComponents(t *testing.T, what string, w network) {
	t.Helper()
	m := closure(w)
	var want []string
	for a := range w.nodes {
		var l []int
		for b := range w.nodes {
			if m[a][b] && m[b][a] {
				l = append(l, b)
			}
		}
		if l[0] == a {
			want = append(want, nodeset.Of(l...).String())
		}
	}
	if got := texts(graph(t, w).Components()); !slices.Equal(got, want) {
		t.Errorf("%s, %v: Components = %q, want %q", what, w, got, want)
	}
}

// P7.1: Components returns the nodes that reach each other, ordered by their smallest nodes.
func TestComponents(t *testing.T) {
	for i, w := range samples() {
		checkComponents(t, fmt.Sprintf("sample %d", i), w)
	}
}

// P7.1: the components of all graphs of three nodes in which each edge is missing, open or closed.
func TestComponentsOfAllSmallGraphs(t *testing.T) {
	times := []int64{0, 1, api.Infinite}
	for code := range 19683 {
		w := network{nodes: 3}
		for place, rest := 0, code; place < 9; place, rest = place+1, rest/3 {
			if rest%3 > 0 {
				w.edges = append(w.edges, api.Edge{From: place / 3, To: place % 3, Time: times[rest%3]})
			}
		}
		checkComponents(t, "small graph", w)
	}
}

// P7.1: the longest paths and cycles.
func TestLargeGraphs(t *testing.T) {
	all := nodeset.All(api.MaxNodes)
	path, ring := graph(t, chain(api.MaxNodes, false)), graph(t, chain(api.MaxNodes, true))
	if got := ring.Components(); len(got) != 1 || !got[0].Equal(all) {
		t.Errorf("the ring has %d components", len(got))
	}
	for what, g := range map[string]*Graph{"path": path, "reverse of the path": path.Reverse()} {
		l := g.Components()
		if len(l) != api.MaxNodes {
			t.Fatalf("the %s has %d components", what, len(l))
		}
		for n, c := range l {
			if !c.Equal(nodeset.Of(n)) {
				t.Errorf("component %d of the %s is %s", n, what, c)
			}
		}
	}
	if got := path.Reachable(nodeset.Of(100)); !got.Equal(all.Difference(nodeset.All(100))) {
		t.Errorf("Reachable({100}) on the path = %s", got)
	}
	if got := path.Reverse().Reachable(nodeset.Of(100)); !got.Equal(nodeset.All(101)) {
		t.Errorf("Reachable({100}) on the reverse of the path = %s", got)
	}
	if got := ring.Reachable(nodeset.Of(100)); !got.Equal(all) {
		t.Errorf("Reachable({100}) on the ring = %s", got)
	}
}

// P7.1: Reverse turns each edge around and leaves its number and the graph alone; twice, it yields the original (P7.2).
func TestReverse(t *testing.T) {
	r := rand.New(rand.NewSource(10))
	for i, w := range append(samples(), random(r, 1000, 3000)) {
		g, turned := graph(t, w), network{nodes: w.nodes}
		for _, e := range w.edges {
			turned.edges = append(turned.edges, api.Edge{From: e.To, To: e.From, Time: e.Time})
		}
		reverse := g.Reverse()
		same(t, fmt.Sprintf("reverse of sample %d", i), reverse, turned)
		same(t, fmt.Sprintf("sample %d, reversed twice", i), reverse.Reverse(), w)
		same(t, fmt.Sprintf("sample %d, after Reverse", i), g, w)
	}
}

// P7.2: a node is reachable from another one if the other is from it in the reverse, and the components are the same there.
func TestReverseTurnsPaths(t *testing.T) {
	for i, w := range samples() {
		g := graph(t, w)
		reverse := g.Reverse()
		for a := range w.nodes {
			for b := range w.nodes {
				there, back := g.Reachable(nodeset.Of(a)).Has(b), reverse.Reachable(nodeset.Of(b)).Has(a)
				if there != back {
					t.Errorf("sample %d: %d reaches %d: %v; in the reverse, backwards: %v", i, a, b, there, back)
				}
			}
		}
		if got, want := texts(reverse.Components()), texts(g.Components()); !slices.Equal(got, want) {
			t.Errorf("sample %d: components %q, in the reverse %q", i, want, got)
		}
	}
}

// P7.2: the components of large graphs partition the nodes, in ascending order of their smallest nodes.
func TestComponentsPartitionTheNodes(t *testing.T) {
	r := rand.New(rand.NewSource(11))
	for _, edges := range []int{0, 2000, 5000, 6000, 8000, api.MaxEdges} {
		w := random(r, api.MaxNodes, edges)
		var union nodeset.Set
		last, sum := -1, 0
		for _, c := range graph(t, w).Components() {
			first, ok := c.Min()
			if !ok || first <= last {
				t.Errorf("%d edges: component %s follows one with the smallest node %d", edges, c, last)
			}
			last, sum, union = first, sum+c.Len(), union.Union(c)
		}
		if sum != w.nodes || union.Len() != w.nodes {
			t.Errorf("%d edges: the components have %d nodes, %d of them different", edges, sum, union.Len())
		}
	}
}

// No method panics on a graph that New has not made (LANGUAGE.md, rule 4): it has no nodes and no edges.
func TestZeroGraph(t *testing.T) {
	var zero Graph
	for what, g := range map[string]*Graph{"zero value": &zero, "its reverse": zero.Reverse()} {
		same(t, what, g, network{})
		if got := g.Reachable(nodeset.All(api.MaxNodes)); got.Len() != 0 || len(g.Components()) != 0 {
			t.Errorf("%s: Reachable = %s, %d components", what, got, len(g.Components()))
		}
	}
}
