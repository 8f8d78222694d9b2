package config

import (
	"math"
	"reflect"
	"slices"
	"strings"
	"testing"

	"samaritan/api"
)

// country returns a valid configuration in which every list has at least two elements.
func country() api.Config {
	c := Default()
	c.Centres = 3
	c.Districts = []int{0, 2, 1, 0, 2}
	c.Edges = []api.Edge{{From: 0, To: 4, Time: 1}, {From: 4, To: 0, Time: api.Infinite}, {From: 2, To: 2, Time: api.MaxTravelTime}}
	c.Units = []api.UnitConfig{{Kind: api.KindBasic, Home: 0, Node: 4}, {Kind: api.KindDoctor, Home: 2, Node: 0},
		{Kind: api.KindCar, Home: 1, Node: 3}, {Kind: api.KindAir, Home: 0, Node: 1}}
	c.Plans = []api.ResponsePlan{{Code: "arrest", Urgency: 1, Kinds: []int{2, 1, 1}}, {Code: "arrest", Urgency: 5, Kinds: []int{3}}, {Code: "never", Urgency: 1, Kinds: []int{4, 2}}}
	return c
}

// edited returns the country with a change.
func edited(change func(c *api.Config)) api.Config {
	c := country()
	change(&c)
	return c
}

// clone returns a copy that shares no memory with c.
func clone(c api.Config) api.Config {
	c.Districts, c.Edges, c.Units, c.Plans = slices.Clone(c.Districts), slices.Clone(c.Edges), slices.Clone(c.Units), slices.Clone(c.Plans)
	for i := range c.Plans {
		c.Plans[i].Kinds = slices.Clone(c.Plans[i].Kinds)
	}
	return c
}

// settings are the parameters as the chapter lists them.
var settings = []struct {
	field, name     string
	least, greatest int64
	standard        int64
}{
	{"HeartbeatInterval", "beat", 1, 1048576, 2},
	{"SuspectTimeout", "patience", 1, 1048576, 10},
	{"ElectionTimeout", "election", 1, 1048576, 12},
	{"LeaseDuration", "lease", 1, 1048576, 20},
	{"SilenceTimeout", "silence", 1, 1048576, 30},
	{"RetryInterval", "again", 1, 1048576, 4},
	{"MaxDistance", "near", 0, 1099511627776, 10},
	{"MaxAge", "window", 0, 1099511627776, 50},
	{"Reserve", "reserve", 0, 256, 1},
	{"QueueLimit", "room", 1, 4096, 8},
}

// setting returns the value of a field.
func setting(c api.Config, field string) int64 { return reflect.ValueOf(c).FieldByName(field).Int() }

// set changes the value of a field.
func set(c *api.Config, field string, n int64) {
	reflect.ValueOf(c).Elem().FieldByName(field).SetInt(n)
}

// plans returns n different plans.
func plans(n int) []api.ResponsePlan {
	var l []api.ResponsePlan
	for i := range n {
		l = append(l, api.ResponsePlan{Code: strings.Repeat("x", 1+i/5), Urgency: 1 + i%5, Kinds: []int{1 + i%4}})
	}
	return l
}

// P6.1: Default returns the parameters of the chapter and nothing else.
func TestDefault(t *testing.T) {
	c := Default()
	for _, s := range settings {
		if got := setting(c, s.field); got != s.standard {
			t.Errorf("%s = %d, want %d", s.field, got, s.standard)
		}
		set(&c, s.field, 0)
	}
	if !reflect.ValueOf(c).IsZero() {
		t.Errorf("Default returns more than parameters: %+v", c)
	}
	if got := Validate(Default()); got != 1 {
		t.Errorf("Validate(Default()) = %d, want 1", got)
	}
}

// The settings of these tests cover every field that is not about the country.
func TestSettingsAreComplete(t *testing.T) {
	known := []string{"Centres", "Districts", "Edges", "Units", "Plans"}
	for _, s := range settings {
		known = append(known, s.field)
	}
	for field := range reflect.TypeFor[api.Config]().Fields() {
		if !slices.Contains(known, field.Name) {
			t.Errorf("no test knows the field %s", field.Name)
		}
	}
}

// P6.1: Validate accepts the limits of every range.
func TestValidateAccepts(t *testing.T) {
	for what, change := range map[string]func(c *api.Config){
		"the country": func(c *api.Config) {},
		"one centre, one node, nothing else": func(c *api.Config) {
			*c = Default()
			c.Centres, c.Districts = 1, []int{0}
		},
		"nine centres": func(c *api.Config) { c.Centres = 9; c.Districts[0] = 8; c.Units[0].Home = 8 },
		"empty lists": func(c *api.Config) {
			c.Edges, c.Units, c.Plans = []api.Edge{}, []api.UnitConfig{}, []api.ResponsePlan{}
		},
		"4096 nodes":            func(c *api.Config) { c.Districts = make([]int, 4096); c.Edges[0].To = 4095; c.Units[0].Node = 4095 },
		"16384 edges":           func(c *api.Config) { c.Edges = slices.Repeat(c.Edges[:1], 16384) },
		"an edge to itself":     func(c *api.Config) { c.Edges[0].To = 0 },
		"256 units":             func(c *api.Config) { c.Units = slices.Repeat(c.Units, 64) },
		"64 plans":              func(c *api.Config) { c.Plans = plans(64) },
		"a short code":          func(c *api.Config) { c.Plans[0].Code = "!" },
		"a long code":           func(c *api.Config) { c.Plans[0].Code = strings.Repeat("~", 40) },
		"eight kinds":           func(c *api.Config) { c.Plans[0].Kinds = []int{1, 2, 3, 4, 4, 3, 2, 1} },
		"same code":             func(c *api.Config) { c.Plans[1].Urgency = 2 },
		"same urgency":          func(c *api.Config) { c.Plans[2].Urgency = 1 },
		"equal kinds":           func(c *api.Config) { c.Plans[2].Kinds = c.Plans[0].Kinds },
		"centres without nodes": func(c *api.Config) { c.Districts = []int{1, 1, 1, 1, 1} },
	} {
		if got := Validate(edited(change)); got != 0 {
			t.Errorf("%s: Validate = %d, want 0", what, got)
		}
	}
	for _, s := range settings {
		for _, n := range []int64{s.least, s.least + 1, s.greatest - 1, s.greatest} {
			if got := Validate(edited(func(c *api.Config) { set(c, s.field, n) })); got != 0 {
				t.Errorf("%s = %d: Validate = %d, want 0", s.field, n, got)
			}
		}
	}
}

// problems are changes of the country: those at index n cause problem n, and no problem with a smaller number.
func problems() [8][]func(c *api.Config) {
	var l [8][]func(c *api.Config)
	for _, n := range []int{0, 10, -1, math.MaxInt, math.MinInt} {
		l[1] = append(l[1], func(c *api.Config) { c.Centres = n })
	}
	l[2] = []func(c *api.Config){
		func(c *api.Config) { c.Districts = nil },
		func(c *api.Config) { c.Districts = []int{} },
		func(c *api.Config) { c.Districts = make([]int, 4097) },
	}
	for _, n := range []int{3, -1, 9, math.MaxInt, math.MinInt} {
		l[3] = append(l[3], func(c *api.Config) { c.Districts[0] = n }, func(c *api.Config) { c.Districts[4] = n })
	}
	l[4] = []func(c *api.Config){func(c *api.Config) { c.Edges = slices.Repeat(c.Edges[:1], 16385) }}
	l[5] = []func(c *api.Config){func(c *api.Config) { c.Units = slices.Repeat(c.Units[:1], 257) }}
	for _, n := range []int{-1, 5, 4096, math.MaxInt, math.MinInt} {
		l[4] = append(l[4], func(c *api.Config) { c.Edges[0].From = n }, func(c *api.Config) { c.Edges[2].To = n })
		l[5] = append(l[5], func(c *api.Config) { c.Units[3].Node = n })
	}
	for _, n := range []int64{0, -1, api.MaxTravelTime + 1, api.Infinite - 1, api.Infinite + 1, math.MaxInt64, math.MinInt64} {
		l[4] = append(l[4], func(c *api.Config) { c.Edges[2].Time = n })
	}
	for _, n := range []int{-1, 0, 5, math.MaxInt, math.MinInt} {
		l[5] = append(l[5], func(c *api.Config) { c.Units[3].Kind = n })
		l[6] = append(l[6], func(c *api.Config) { c.Plans[2].Kinds[1] = n }, func(c *api.Config) { c.Plans[0].Kinds[0] = n })
	}
	for _, n := range []int{-1, 3, 8, math.MaxInt, math.MinInt} {
		l[5] = append(l[5], func(c *api.Config) { c.Units[3].Home = n })
	}
	for _, n := range []int{-1, 0, 6, math.MaxInt, math.MinInt} {
		l[6] = append(l[6], func(c *api.Config) { c.Plans[2].Urgency = n })
	}
	for _, s := range []string{"", " ", "a b", "a ", " a", "a\n", "\x7f", "\x20x", "x\x80", "é", "\x00", strings.Repeat("x", 41)} {
		l[6] = append(l[6], func(c *api.Config) { c.Plans[2].Code = s })
	}
	l[6] = append(l[6],
		func(c *api.Config) { c.Plans = plans(65) },
		func(c *api.Config) { c.Plans[0].Kinds = nil },
		func(c *api.Config) { c.Plans[2].Kinds = []int{} },
		func(c *api.Config) { c.Plans[2].Kinds = []int{1, 2, 3, 4, 1, 2, 3, 4, 1} },
		func(c *api.Config) { c.Plans[1].Urgency = 1 },
		func(c *api.Config) { c.Plans[2].Code = "arrest" },
		func(c *api.Config) { c.Plans = append(plans(63), plans(1)...) })
	for _, s := range settings {
		for _, n := range []int64{s.least - 1, s.greatest + 1, -1, math.MaxInt64, math.MinInt64} {
			l[7] = append(l[7], func(c *api.Config) { set(c, s.field, n) })
		}
	}
	return l
}

// P6.1: Validate finds every problem of the list.
func TestValidateFinds(t *testing.T) {
	for want, l := range problems() {
		for i, change := range l {
			if got := Validate(edited(change)); got != want {
				t.Errorf("change %d of problem %d: Validate = %d", i, want, got)
			}
		}
	}
	if got := Validate(api.Config{}); got != 1 {
		t.Errorf("Validate of the zero value = %d, want 1", got)
	}
	if got := Validate(api.Config{Centres: 1, Districts: []int{0}}); got != 7 {
		t.Errorf("Validate without parameters = %d, want 7", got)
	}
}

// P6.1: of several problems, Validate returns the one that is first in the list.
func TestValidateReturnsTheFirstProblem(t *testing.T) {
	l := problems()
	for want := 1; want < len(l); want++ {
		for other := want + 1; other < len(l); other++ {
			for i, change := range l[want] {
				for j, another := range l[other] {
					c := edited(another)
					change(&c)
					if got := Validate(c); got != want {
						t.Errorf("change %d of problem %d and %d of %d: Validate = %d", i, want, j, other, got)
					}
				}
			}
		}
	}
}

// P6.1: Validate does not change its argument.
func TestValidateChangesNothing(t *testing.T) {
	for _, l := range problems() {
		for i, change := range l {
			c := edited(change)
			before := clone(c)
			Validate(c)
			if !reflect.DeepEqual(c, before) {
				t.Errorf("change %d: Validate changed its argument", i)
			}
		}
	}
}

// P6.1: Equal compares every field and every element.
func TestEqual(t *testing.T) {
	differences := map[string]func(c *api.Config){
		"Centres":        func(c *api.Config) { c.Centres++ },
		"district":       func(c *api.Config) { c.Districts[4] = 1 },
		"fewer nodes":    func(c *api.Config) { c.Districts = c.Districts[:4] },
		"no nodes":       func(c *api.Config) { c.Districts = nil },
		"more nodes":     func(c *api.Config) { c.Districts = append(c.Districts, 0) },
		"node order":     func(c *api.Config) { slices.Reverse(c.Districts) },
		"edge from":      func(c *api.Config) { c.Edges[2].From++ },
		"edge to":        func(c *api.Config) { c.Edges[0].To-- },
		"edge time":      func(c *api.Config) { c.Edges[1].Time-- },
		"fewer edges":    func(c *api.Config) { c.Edges = c.Edges[:2] },
		"edge order":     func(c *api.Config) { slices.Reverse(c.Edges) },
		"no edges":       func(c *api.Config) { c.Edges = nil },
		"unit kind":      func(c *api.Config) { c.Units[0].Kind = 2 },
		"unit home":      func(c *api.Config) { c.Units[3].Home = 1 },
		"unit node":      func(c *api.Config) { c.Units[1].Node = 1 },
		"fewer units":    func(c *api.Config) { c.Units = c.Units[:3] },
		"unit order":     func(c *api.Config) { slices.Reverse(c.Units) },
		"no units":       func(c *api.Config) { c.Units = nil },
		"plan code":      func(c *api.Config) { c.Plans[2].Code = "Never" },
		"plan urgency":   func(c *api.Config) { c.Plans[0].Urgency = 2 },
		"plan kind":      func(c *api.Config) { c.Plans[1].Kinds[0] = 4 },
		"plan kinds":     func(c *api.Config) { c.Plans[0].Kinds = []int{2, 1} },
		"plan no kinds":  func(c *api.Config) { c.Plans[0].Kinds = nil },
		"kinds order":    func(c *api.Config) { slices.Reverse(c.Plans[2].Kinds) },
		"fewer plans":    func(c *api.Config) { c.Plans = c.Plans[:2] },
		"plan order":     func(c *api.Config) { slices.Reverse(c.Plans) },
		"no plans":       func(c *api.Config) { c.Plans = nil },
		"nothing at all": func(c *api.Config) { *c = api.Config{} },
		"only defaults":  func(c *api.Config) { *c = Default() },
	}
	for _, s := range settings {
		differences[s.field] = func(c *api.Config) { set(c, s.field, setting(*c, s.field)+1) }
		differences[s.field+" negative"] = func(c *api.Config) { set(c, s.field, -setting(*c, s.field)) }
	}
	for what, change := range differences {
		a, b := country(), edited(change)
		if Equal(a, b) || Equal(b, a) {
			t.Errorf("%s: a changed configuration is equal", what)
		}
		if !Equal(b, clone(b)) {
			t.Errorf("%s: a copy is not equal", what)
		}
	}
	if !Equal(country(), country()) || !Equal(api.Config{}, api.Config{}) {
		t.Error("equal configurations are not equal")
	}
}

// P6.1: Equal takes nil and empty slices as equal, at any depth, and compares invalid configurations, too.
func TestEqualEmpty(t *testing.T) {
	a := api.Config{Plans: []api.ResponsePlan{{}}}
	b := api.Config{Districts: []int{}, Edges: []api.Edge{}, Units: []api.UnitConfig{}, Plans: []api.ResponsePlan{{Kinds: []int{}}}}
	if !Equal(a, b) || !Equal(b, a) {
		t.Error("empty slices are not equal to nil")
	}
	a.Plans = nil
	if Equal(a, b) || Equal(b, a) {
		t.Error("a plan of zero values is equal to no plan")
	}
	b.Plans = []api.ResponsePlan{}
	if !Equal(a, b) || !Equal(b, a) {
		t.Error("an empty slice of plans is not equal to nil")
	}
}
