package nodeset

import (
	"math"
	"math/rand"
	"slices"
	"strconv"
	"strings"
	"testing"

	"samaritan/api"
)

// last is the greatest node.
const last = api.MaxNodes - 1

// noNodes are numbers that are not nodes.
var noNodes = []int{math.MinInt, -api.MaxNodes, -64, -2, -1, api.MaxNodes, api.MaxNodes + 1, 2 * api.MaxNodes, 1 << 32, math.MaxInt}

// model is a set as one bool per node, against which the sets are compared.
type model [api.MaxNodes]bool

func modelOf(l []int) *model {
	var m model
	for _, n := range l {
		if 0 <= n && n <= last {
			m[n] = true
		}
	}
	return &m
}

func (m *model) list() []int {
	var l []int
	for n, has := range m {
		if has {
			l = append(l, n)
		}
	}
	return l
}

// text is the string form, written from the runs as the chapter defines them.
func (m *model) text() string {
	var runs []string
	for n := 0; n <= last; n++ {
		first := n
		for n <= last && m[n] {
			n++
		}
		switch n - first {
		case 0:
		case 1:
			runs = append(runs, strconv.Itoa(first))
		default:
			runs = append(runs, strconv.Itoa(first)+"-"+strconv.Itoa(n-1))
		}
	}
	return strings.Join(runs, ",")
}

// samples returns lists of numbers whose sets differ in size, in gaps, and at the borders of machine words.
func samples() [][]int {
	l := [][]int{
		nil, {}, {0}, {last}, {0, last}, {1, 2, 3, 7}, {7, 3, 1, 2, 3, 7}, {0, 1}, {last - 1, last},
		{31, 32, 33}, {62, 63}, {63, 64}, {63, 65}, {64}, {127, 128, 129, 4032, 4031}, {0, 2, 4, 6}, {10, 11, 13, 14, 16},
		noNodes, append([]int{5, 6, 4000}, noNodes...), append(slices.Clone(noNodes), 0, last),
	}
	var all, even []int
	for n := range api.MaxNodes {
		all = append(all, n)
		if n%2 == 0 {
			even = append(even, n)
		}
	}
	l = append(l, all, even, all[1:], all[:last], all[64:128], all[100:3000])
	r := rand.New(rand.NewSource(2))
	for i := range 40 {
		var x []int
		for range 1 << (i % 13) {
			first := r.Intn(api.MaxNodes + 20)
			for n := range 1 + r.Intn(5) {
				x = append(x, first-10+n)
			}
		}
		l = append(l, x)
	}
	return l
}

// same checks a set against a model with every function that observes sets.
func same(t *testing.T, what string, s Set, m *model) {
	t.Helper()
	want := m.list()
	if got := s.List(); !slices.Equal(got, want) {
		t.Errorf("%s: List = %v, want %v", what, got, want)
	}
	if got := slices.Collect(s.Each()); !slices.Equal(got, want) {
		t.Errorf("%s: Each yields %v, want %v", what, got, want)
	}
	if got := s.Len(); got != len(want) {
		t.Errorf("%s: Len = %d, want %d", what, got, len(want))
	}
	for n, has := range m {
		if s.Has(n) != has {
			t.Errorf("%s: Has(%d) = %v", what, n, !has)
		}
	}
	n, ok := s.Min()
	if len(want) == 0 && (n != 0 || ok) || len(want) > 0 && (n != want[0] || !ok) {
		t.Errorf("%s: Min = %d, %v, want the first of %v", what, n, ok, want)
	}
	if got := s.String(); got != m.text() {
		t.Errorf("%s: String = %q, want %q", what, got, m.text())
	}
}

// P2.1: the zero value is the empty set.
func TestZeroValueIsEmpty(t *testing.T) {
	var zero Set
	same(t, "zero value", zero, &model{})
	for what, s := range map[string]Set{
		"Of()": Of(), "Of(nil...)": Of(nil...), "Of(-1)": Of(-1), "Of(noNodes...)": Of(noNodes...), "All(0)": All(0),
		"difference": Of(1, 2).Difference(Of(0, 1, 2)), "intersection": Of(1, 100).Intersect(Of(2, 99)),
	} {
		if !s.Equal(zero) || !zero.Equal(s) {
			t.Errorf("%s is not equal to the zero value", what)
		}
	}
	s := Of(3, 64, last)
	if !zero.Union(s).Equal(s) || !s.Union(zero).Equal(s) || !s.Difference(zero).Equal(s) {
		t.Error("the zero value adds or removes nodes")
	}
	if !zero.Intersect(s).Equal(zero) || !s.Intersect(zero).Equal(zero) || !zero.Difference(s).Equal(zero) {
		t.Error("the zero value has nodes")
	}
}

// P2.1: Of takes the nodes of its arguments, in any order and any number, and ignores other numbers.
func TestOf(t *testing.T) {
	for _, l := range samples() {
		same(t, "Of("+strconv.Itoa(len(l))+" numbers)", Of(l...), modelOf(l))
	}
	same(t, "Of(7, 3, 1, 2, 3)", Of(7, 3, 1, 2, 3), modelOf([]int{1, 2, 3, 7}))
	for n := range api.MaxNodes {
		if got := Of(n).List(); !slices.Equal(got, []int{n}) {
			t.Errorf("Of(%d) = %v", n, got)
		}
	}
}

// P2.1: All returns the nodes less than its argument.
func TestAll(t *testing.T) {
	for _, n := range []int{math.MinInt, -api.MaxNodes, -1, 0, 1, 2, 63, 64, 65, 127, 128, 1000, last - 1, last, api.MaxNodes, api.MaxNodes + 1, 1 << 40, math.MaxInt} {
		var m model
		for i := range m {
			m[i] = i < n
		}
		same(t, "All("+strconv.Itoa(n)+")", All(n), &m)
	}
}

// P2.1: numbers that are no nodes are in no set.
func TestHasOnlyNodes(t *testing.T) {
	for _, s := range []Set{{}, Of(0), Of(last), Of(noNodes...), All(api.MaxNodes), All(math.MaxInt)} {
		for _, n := range noNodes {
			if s.Has(n) {
				t.Errorf("%s has %d", s, n)
			}
		}
	}
}

// P2.1: union, intersection, difference and equality of every pair of the samples.
func TestOperations(t *testing.T) {
	l := samples()
	for i := range l {
		a, s := modelOf(l[i]), Of(l[i]...)
		for j := range l {
			b, u := modelOf(l[j]), Of(l[j]...)
			var or, and, not model
			for n := range a {
				or[n], and[n], not[n] = a[n] || b[n], a[n] && b[n], a[n] && !b[n]
			}
			what := "samples " + strconv.Itoa(i) + " and " + strconv.Itoa(j)
			same(t, what+", union", s.Union(u), &or)
			same(t, what+", intersection", s.Intersect(u), &and)
			same(t, what+", difference", s.Difference(u), &not)
			if got := s.Equal(u); got != (*a == *b) {
				t.Errorf("%s: Equal = %v", what, got)
			}
		}
	}
}

// P2.1: sets that differ in one node are not equal, wherever it is.
func TestEqual(t *testing.T) {
	for _, s := range []Set{{}, Of(1, 2, 3), All(api.MaxNodes), Of(0, last)} {
		for n := range api.MaxNodes {
			with, without := s.Union(Of(n)), s.Difference(Of(n))
			if with.Equal(without) || without.Equal(with) {
				t.Errorf("%s equals %s", with, without)
			}
			if back := without.Union(Of(n)); !back.Equal(with) || !with.Equal(back) {
				t.Errorf("%s does not equal %s", back, with)
			}
		}
	}
}

// P2.1: an iteration ends with the loop, and can be repeated and nested.
func TestEach(t *testing.T) {
	each := Of(3, 64, 65, 4000).Each()
	for count := range 6 {
		var got []int
		for n := range each {
			if len(got) == count {
				break
			}
			got = append(got, n)
		}
		if want := []int{3, 64, 65, 4000}[:min(count, 4)]; !slices.Equal(got, want) {
			t.Errorf("stopped after %d: %v", count, got)
		}
	}
	calls := 0
	each(func(int) bool { calls++; return calls < 2 })
	if calls != 2 {
		t.Errorf("the iterator called its function %d times, want 2", calls)
	}
	var pairs []int
	for a := range each {
		for b := range each {
			pairs = append(pairs, a*10000+b)
		}
	}
	if len(pairs) != 16 || pairs[0] != 30003 || pairs[7] != 644000 || pairs[15] != 40004000 {
		t.Errorf("nested iterations: %v", pairs)
	}
	for n := range (Set{}).Each() {
		t.Errorf("the empty set yields %d", n)
	}
}

// P2.1: the smallest node, and 0 and false where there is none.
func TestMin(t *testing.T) {
	for n := range api.MaxNodes {
		if got, ok := Of(last, n).Min(); got != n || !ok {
			t.Errorf("Min = %d, %v, want %d", got, ok, n)
		}
	}
	if n, ok := (Set{}).Min(); n != 0 || ok {
		t.Errorf("Min of the empty set = %d, %v", n, ok)
	}
}

// P2.1: string forms, which Parse turns back into the set.
func TestStringAndParse(t *testing.T) {
	for _, x := range []struct {
		text string
		l    []int
	}{
		{"", nil},
		{"0", []int{0}},
		{"4095", []int{4095}},
		{"1-3,7", []int{1, 2, 3, 7}},
		{"0-1", []int{0, 1}},
		{"0,2", []int{0, 2}},
		{"0-1,3-4,6", []int{0, 1, 3, 4, 6}},
		{"9-11", []int{9, 10, 11}},
		{"62-65,99-100,4094-4095", []int{62, 63, 64, 65, 99, 100, 4094, 4095}},
		{"0,4095", []int{0, 4095}},
	} {
		if got := Of(x.l...).String(); got != x.text {
			t.Errorf("String of %v = %q, want %q", x.l, got, x.text)
		}
		s, e := Parse(x.text)
		if e != api.OK {
			t.Errorf("Parse(%q): error %d", x.text, e)
		}
		same(t, "Parse("+x.text+")", s, modelOf(x.l))
	}
	if got := All(api.MaxNodes).String(); got != "0-4095" {
		t.Errorf("String of all nodes = %q", got)
	}
	for _, l := range samples() {
		m := modelOf(l)
		s, e := Parse(m.text())
		if e != api.OK {
			t.Errorf("Parse(%q): error %d", m.text(), e)
		}
		same(t, "Parse("+m.text()+")", s, m)
	}
}

// refused checks that Parse returns ErrSyntax and the zero value.
func refused(t *testing.T, text string) {
	t.Helper()
	if s, e := Parse(text); e != api.ErrSyntax || !s.Equal(Set{}) {
		t.Errorf("Parse(%.40q) = %s, error %d, want ErrSyntax", text, s, e)
	}
}

// P2.1: whatever is not a string form is refused.
func TestParseRefuses(t *testing.T) {
	for _, text := range []string{
		"3-1", "1,2", "01", "3-3", "0-0", "1-2,3", "1-2,3-4", "1,2-3", "2,1", "1,1", "1-3,2", "1-3,3-5", "7,1-3", "1-5,2-3",
		",", "-", "1,", ",1", "1,,3", "1-", "-1", "--1", "1--2", "1-2-3", "1-3-", "-1-3", "1,-", "1,-3", "5-,7",
		"00", "01-3", "1-03", "1,03", "0-01", "-0", "+1", "1-+3", "1_0", "0x1", "1e1", "1.0", "a", "1a", "a1", "all",
		" ", " 1", "1 ", "1, 3", "1 ,3", "1 -3", "1- 3", "1\n", "1\x00", "1;3", "1–3", "١",
		"4096", "4095-4096", "4096-4097", "0-4096", "5000", "4095,4096", "0,5000", "1-5000",
		"2147483648", "4294967296", "4294967297", "9223372036854775807", "9223372036854775808", "18446744073709551616", "18446744073709551617",
		"0-18446744073709551617", "1,18446744073709551619", "99999999999999999999999999", "-9223372036854775808", "0-99999999999999999999999999",
	} {
		refused(t, text)
	}
	refused(t, strings.Repeat("0-4095,", 20000))
	refused(t, strings.Repeat(",", 1000000))
	refused(t, strings.Repeat("1", 1000000))
	refused(t, strings.Repeat("1-0,", 300000))
}

// P2.1: every string of a few letters is either refused or the string form of what Parse returns.
func TestParseShortTexts(t *testing.T) {
	const letters = "0129,-+ "
	forms := 0
	var extend func(text string)
	extend = func(text string) {
		s, e := Parse(text)
		if e == api.OK {
			forms++
			if s.String() != text || modelOf(s.List()).text() != text {
				t.Errorf("Parse(%q) = %s", text, s)
			}
		} else if e != api.ErrSyntax || s.Len() != 0 {
			t.Errorf("Parse(%q) = %s, error %d", text, s, e)
		}
		if len(text) < 5 {
			for i := range letters {
				extend(text + letters[i:i+1])
			}
		}
	}
	extend("")
	if want := countForms(letters[:4], 5); forms != want {
		t.Errorf("%d strings were accepted, want %d", forms, want)
	}
}

// countForms counts the string forms of at most length bytes whose digits are among the given ones,
// by appending runs to each other.
func countForms(digits string, length int) int {
	var numbers []int
	for n := range api.MaxNodes {
		if strings.Trim(strconv.Itoa(n), digits) == "" {
			numbers = append(numbers, n)
		}
	}
	// count counts the forms that continue a text of the given length whose last node is before.
	var count func(before, used int) int
	count = func(before, used int) int {
		forms := 1
		for _, first := range numbers {
			comma := 1
			if used == 0 {
				comma = 0
			}
			size := used + comma + len(strconv.Itoa(first))
			if first <= before+1 || size > length {
				continue
			}
			forms += count(first, size)
			for _, end := range numbers {
				if more := size + 1 + len(strconv.Itoa(end)); end > first && more <= length {
					forms += count(end, more)
				}
			}
		}
		return forms
	}
	return count(-2, 0)
}

// P2.2: no operation modifies its operands.
func TestOperandsStay(t *testing.T) {
	l := samples()
	for i := range l {
		a, s := modelOf(l[i]), Of(l[i]...)
		for j := range l {
			b, u := modelOf(l[j]), Of(l[j]...)
			s.Union(u)
			s.Intersect(u)
			s.Difference(u)
			s.Equal(u)
			s.Has(j)
			s.Min()
			s.Len()
			_ = s.String()
			if *modelOf(s.List()) != *a || *modelOf(u.List()) != *b {
				t.Errorf("samples %d and %d were modified", i, j)
			}
		}
	}
}

// P2.2: a set stays the same when its results are used further, and when slices it was made from or has returned are overwritten.
func TestSetsShareNothing(t *testing.T) {
	for _, l := range samples() {
		m, given := modelOf(l), slices.Clone(l)
		s := Of(given...)
		if !slices.Equal(given, l) {
			t.Errorf("Of changed its arguments %v to %v", l, given)
		}
		c, e, each := s, Of(l...), s.Each()
		clear(given)
		list := s.List()
		for i := range list {
			list[i] = last - list[i]
		}
		list = append(list, 9)
		u := s.Union(Of(1, 5)).Difference(All(3)).Union(s).Intersect(All(4000)).Union(Of(77, last))
		_ = append(u.List(), list...)
		same(t, "after use", s, m)
		same(t, "a copy", c, m)
		if !s.Equal(e) || !slices.Equal(slices.Collect(each), m.list()) {
			t.Errorf("%s was modified", e)
		}
	}
	s := Of(1, 2)
	each := s.Each()
	s = s.Union(Of(3))
	if got := slices.Collect(each); !slices.Equal(got, []int{1, 2}) {
		t.Errorf("an iterator yields nodes of a later set: %v", got)
	}
	if s.Len() != 3 {
		t.Errorf("Len = %d, want 3", s.Len())
	}
}
